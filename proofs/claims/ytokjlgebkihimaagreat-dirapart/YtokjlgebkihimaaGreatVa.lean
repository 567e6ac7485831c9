import Derived.Test.YtokjlgebkihimaaGreatGp
import Derived.Test.YtokjlgebkihimaaGreatGg

namespace Go.Proofs.YtokjlgebkihimaaGreat
open Go.RowKit Go.Maps

/-- what inodes name, what blocks of names name, which blocks are taken: as functions -/
structure NS where
  rt : Nat → Nat → Nat
  bn : Nat → Nat → Nat
  tk : Nat → Bool
/-- a place's path, from its end: of an inode, of Single's or Double's block, of a block that Double's block names -/
def okp : List Nat → Bool
  | [p] => decide (p < 8)
  | [j, r] => decide (j < 64) && (r == 6 || r == 7)
  | [k, j, r] => decide (k < 64) && decide (j < 64) && r == 7
  | _ => false
/-- the block that is named at a path of a file, or 0 -/
def vl (S : NS) (i : Nat) : List Nat → Nat
  | [] => 0
  | [p] => S.rt i p
  | p :: q :: r => if vl S i (q :: r) = 0 then 0 else S.bn (vl S i (q :: r)) p
set_option maxRecDepth 100000 in
theorem okp_tail {a b : Nat} {r : List Nat} (h : okp (a :: b :: r) = true) : okp (b :: r) = true := by
  match r, h with
  | [], h =>
    simp [okp] at h ⊢; omega
  | [c], h => simp [okp] at h ⊢; omega
  | c :: d :: r, h => simp [okp] at h
set_option maxRecDepth 100000 in
theorem okp_ne {p : List Nat} (h : okp p = true) : p ≠ [] := by rintro rfl; simp [okp] at h
/-- a bit of the bitmap so -/
def NS.take (S : NS) (b : Nat) (t : Bool) : NS := { S with tk := fun c => if c = b then t else S.tk c }
/-- a block that names none -/
def NS.zero (S : NS) (b : Nat) : NS := { S with bn := fun c q => if c = b then 0 else S.bn c q }
/-- a number at a spot: of the inode, or of a block of names -/
def NS.put (S : NS) (i inn pl b : Nat) : NS := if inn = 0 then { S with rt := fun j q => if j = i ∧ q = pl then b else S.rt j q } else { S with bn := fun c q => if c = inn ∧ q = pl then b else S.bn c q }
/-- no block is named twice, all that are named are data blocks and taken, all that are taken are named -/
structure Inv (z da n : Nat) (S : NS) : Prop where
  inj : ∀ i j p q, i < z → j < z → okp p = true → okp q = true → vl S i p = vl S j q → vl S i p ≠ 0 → i = j ∧ p = q
  tkn : ∀ i p, i < z → okp p = true → vl S i p ≠ 0 → S.tk (vl S i p) = true
  rng : ∀ i p, i < z → okp p = true → vl S i p ≠ 0 → da ≤ vl S i p ∧ vl S i p < n
  all : ∀ b, da ≤ b → b < n → S.tk b = true → ∃ i p, i < z ∧ okp p = true ∧ vl S i p = b
set_option maxRecDepth 100000 in
theorem vl_take (S : NS) (b : Nat) (t : Bool) (i : Nat) : ∀ p, vl (S.take b t) i p = vl S i p
  | [] => rfl
  | [_] => rfl
  | a :: c :: r => by
    have h := vl_take S b t i (c :: r)
    simp only [vl]
    rw [h]
    rfl
set_option maxRecDepth 100000 in
theorem vl_zero {z : Nat} (S : NS) (b : Nat) (hb : ∀ i p, i < z → okp p = true → vl S i p ≠ b) (i : Nat) (hi : i < z) : ∀ p, okp p = true → vl (S.zero b) i p = vl S i p
  | [], _ => rfl
  | [_], _ => rfl
  | a :: c :: r, h => by
    have ht := okp_tail h
    have ih := vl_zero S b hb i hi (c :: r) ht
    simp only [vl]
    rw [ih]
    have hn := hb i (c :: r) hi ht
    by_cases e : vl S i (c :: r) = 0
    · rw [if_pos e, if_pos e]
    · rw [if_neg e, if_neg e]
      simp [NS.zero, hn]
/-- the spot of a path: the block that names there, 0 for the inode -/
def inn (S : NS) (i : Nat) (p : List Nat) : Nat := vl S i p.tail
set_option maxRecDepth 100000 in
theorem vl_put {z : Nat} (S : NS) (hinj : ∀ i j p q, i < z → j < z → okp p = true → okp q = true → vl S i p = vl S j q → vl S i p ≠ 0 → i = j ∧ p = q)
    (i : Nat) (hi : i < z) (pl : Nat) (r : List Nat) (hp : okp (pl :: r) = true) (hr : r ≠ [] → vl S i r ≠ 0) (b : Nat) (hch : ∀ c, okp (c :: pl :: r) = true → vl S i (c :: pl :: r) = 0)
    (hb : b ≠ 0 → (∀ j q, j < z → okp q = true → vl S j q ≠ b) ∧ ∀ c, S.bn b c = 0) (j : Nat) (hj : j < z) : ∀ q, okp q = true → vl (S.put i (vl S i r) pl b) j q = if j = i ∧ q = pl :: r then b else vl S j q
  | [], h => by simp [okp] at h
  | [x], _ => by
    match r, hr with
    | [], _ => simp [vl, NS.put]
    | c :: r, hr =>
      have := hr (by simp)
      simp [vl, NS.put, this]
  | x :: y :: s, h => by
    have ht := okp_tail h
    have ih := vl_put S hinj i hi pl r hp hr b hch hb j hj (y :: s) ht
    by_cases e : j = i ∧ y :: s = pl :: r
    · obtain ⟨rfl, e⟩ := e
      rw [if_pos ⟨rfl, e⟩] at ih
      rw [if_neg (by rintro ⟨_, h2⟩; have := congrArg List.length h2; have := congrArg List.length e; simp at *; omega)]
      have h0 := hch x (by rw [← e]; exact h)
      rw [← e] at h0
      rw [h0]
      rw [vl, ih]
      by_cases b0 : b = 0
      · rw [if_pos b0]
      · rw [if_neg b0]
        obtain ⟨f1, f2⟩ := hb b0
        unfold NS.put
        by_cases r0 : vl S j r = 0
        · rw [if_pos r0]; exact f2 x
        · rw [if_neg r0]
          have hrr : okp r = true := by
            match r, hp, r0 with
            | [], _, r0 => exact absurd rfl r0
            | c :: r, hp, _ => exact okp_tail hp
          have := f1 j r hj hrr
          simp only
          rw [if_neg (by rintro ⟨h1, _⟩; exact this h1.symm)]
          exact f2 x
    · rw [if_neg e] at ih
      rw [vl, ih]
      by_cases v0 : vl S j (y :: s) = 0
      · rw [if_pos v0]
        rw [if_neg]
        · rw [vl, if_pos v0]
        · rintro ⟨rfl, h2⟩
          rw [List.cons.injEq] at h2
          obtain ⟨_, h2⟩ := h2
          rw [← h2] at hr
          exact hr (by simp) v0
      · rw [if_neg v0]
        unfold NS.put
        by_cases r0 : vl S i r = 0
        · rw [if_pos r0]
          have hrn : r = [] := by
            match r, hr, r0 with
            | [], _, _ => rfl
            | c :: r, hr, r0 => exact absurd r0 (hr (by simp))
          subst hrn
          rw [if_neg (by rintro ⟨_, h2⟩; simp at h2)]
          rw [vl, if_neg v0]
        · rw [if_neg r0]
          have hrr : okp r = true := by
            match r, hp, r0 with
            | [], _, r0 => exact absurd rfl r0
            | c :: r, hp, _ => exact okp_tail hp
          simp only
          by_cases hv : vl S j (y :: s) = vl S i r
          · obtain ⟨rfl, hs⟩ := hinj j i (y :: s) r hj hi ht hrr hv v0
            subst hs
            by_cases hx : x = pl
            · subst hx
              rw [if_pos ⟨rfl, rfl⟩, if_pos ⟨rfl, rfl⟩]
            · rw [if_neg (by rintro ⟨_, h2⟩; exact hx h2), if_neg (by rintro ⟨_, h2⟩; rw [List.cons.injEq] at h2; exact hx h2.1)]
              rw [vl, if_neg v0]
          · rw [if_neg (by rintro ⟨h1, _⟩; exact hv h1), if_neg]
            · rw [vl, if_neg v0]
            · rintro ⟨rfl, h2⟩
              rw [List.cons.injEq] at h2
              rw [h2.2] at hv
              exact hv rfl
set_option maxRecDepth 100000 in
theorem child0 {S : NS} {i pl : Nat} {r : List Nat} (h : vl S i (pl :: r) = 0) (c : Nat) : vl S i (c :: pl :: r) = 0 := by rw [vl, if_pos h]
/-- a block made and named at a spot -/
def NS.make (S : NS) (i inn pl b : Nat) : NS := ((S.take b true).zero b).put i inn pl b
/-- a block let go at a spot -/
def NS.letGo (S : NS) (i inn pl b : Nat) : NS := (S.take b false).put i inn pl 0
set_option maxRecDepth 100000 in
theorem put_tk (S : NS) (i inn pl b : Nat) : (S.put i inn pl b).tk = S.tk := by unfold NS.put; split <;> rfl
set_option maxRecDepth 100000 in
theorem make_vl {z da n : Nat} {S : NS} (H : Inv z da n S) {i : Nat} (hi : i < z) {pl : Nat} {r : List Nat} (hp : okp (pl :: r) = true) (hr : r ≠ [] → vl S i r ≠ 0) (h0 : vl S i (pl :: r) = 0) {b : Nat} (ht : S.tk b = false) (hda : 0 < da) (hb : da ≤ b) :
    ∀ j, j < z → ∀ q, okp q = true → vl (S.make i (vl S i r) pl b) j q = if j = i ∧ q = pl :: r then b else vl S j q := by
  have hfr : ∀ j q, j < z → okp q = true → vl S j q ≠ b := by
    intro j q hj hq e
    have := H.tkn j q hj hq (by omega)
    rw [e, ht] at this
    exact absurd this (by simp)
  intro j hj q hq
  have e1 : ∀ j, j < z → ∀ q, okp q = true → vl ((S.take b true).zero b) j q = vl S j q := by
    intro j hj q hq
    rw [vl_zero (z := z) (S.take b true) b (by intro i p hi hp; rw [vl_take]; exact hfr i p hi hp) j hj q hq, vl_take]
  have er : vl S i r = vl ((S.take b true).zero b) i r := by
    match r, hp with
    | [], _ => rfl
    | c :: r, hp => exact (e1 i hi _ (okp_tail hp)).symm
  unfold NS.make
  rw [er, vl_put (z := z) ((S.take b true).zero b) (by
      intro a c p q ha hc hp hq h1 h2
      rw [e1 a ha p hp, e1 c hc q hq] at h1
      rw [e1 a ha p hp] at h2
      exact H.inj a c p q ha hc hp hq h1 h2) i hi pl r hp (by intro hn; rw [← er]; exact hr hn) b (by
      intro c hc
      rw [e1 i hi _ hc]; exact child0 h0 c) (by
      intro _
      refine ⟨fun j q hj hq => ?_, fun c => ?_⟩
      · rw [e1 j hj q hq]; exact hfr j q hj hq
      · simp [NS.zero]) j hj q hq, e1 j hj q hq]
set_option maxRecDepth 100000 in
theorem make_tk (S : NS) (i inn pl b c : Nat) : (S.make i inn pl b).tk c = if c = b then true else S.tk c := by
  unfold NS.make; rw [put_tk]; rfl
set_option maxRecDepth 100000 in
theorem letGo_tk (S : NS) (i inn pl b c : Nat) : (S.letGo i inn pl b).tk c = if c = b then false else S.tk c := by
  unfold NS.letGo; rw [put_tk]; rfl
set_option maxRecDepth 100000 in
theorem make_inv {z da n : Nat} {S : NS} (H : Inv z da n S) {i : Nat} (hi : i < z) {pl : Nat} {r : List Nat} (hp : okp (pl :: r) = true) (hr : r ≠ [] → vl S i r ≠ 0) (h0 : vl S i (pl :: r) = 0) {b : Nat} (ht : S.tk b = false) (hda : 0 < da) (hb : da ≤ b) (hn : b < n) : Inv z da n (S.make i (vl S i r) pl b) := by
  have hv := make_vl H hi hp hr h0 ht hda hb
  have hfr : ∀ j q, j < z → okp q = true → vl S j q ≠ b := by
    intro j q hj hq e
    have := H.tkn j q hj hq (by omega)
    rw [e, ht] at this
    exact absurd this (by simp)
  refine ⟨?_, ?_, ?_, ?_⟩
  · intro a c p q ha hc hp hq h1 h2
    rw [hv a ha p hp] at h1 h2
    rw [hv c hc q hq] at h1
    by_cases e1 : a = i ∧ p = pl :: r
    · by_cases e2 : c = i ∧ q = pl :: r
      · exact ⟨by omega, e1.2.trans e2.2.symm⟩
      · rw [if_pos e1, if_neg e2] at h1
        exact absurd h1.symm (hfr c q hc hq)
    · rw [if_neg e1] at h1 h2
      by_cases e2 : c = i ∧ q = pl :: r
      · rw [if_pos e2] at h1
        exact absurd h1 (hfr a p ha hp)
      · rw [if_neg e2] at h1
        exact H.inj a c p q ha hc hp hq h1 h2
  · intro a p ha hp h2
    rw [make_tk]
    rw [hv a ha p hp] at h2 ⊢
    by_cases e1 : a = i ∧ p = pl :: r
    · rw [if_pos e1, if_pos rfl]
    · rw [if_neg e1] at h2 ⊢
      rw [if_neg (hfr a p ha hp)]
      exact H.tkn a p ha hp h2
  · intro a p ha hp h2
    rw [hv a ha p hp] at h2 ⊢
    by_cases e1 : a = i ∧ p = pl :: r
    · rw [if_pos e1]; omega
    · rw [if_neg e1] at h2 ⊢
      exact H.rng a p ha hp h2
  · intro c hc1 hc2 hct
    rw [make_tk] at hct
    by_cases e : c = b
    · exact ⟨i, pl :: r, hi, hp, by rw [hv i hi _ hp, if_pos ⟨rfl, rfl⟩, e]⟩
    · rw [if_neg e] at hct
      obtain ⟨a, p, ha, hpp, e2⟩ := H.all c hc1 hc2 hct
      refine ⟨a, p, ha, hpp, ?_⟩
      rw [hv a ha p hpp, if_neg, e2]
      rintro ⟨rfl, rfl⟩
      omega
set_option maxRecDepth 100000 in
theorem letGo_vl {z da n : Nat} {S : NS} (H : Inv z da n S) {i : Nat} (hi : i < z) {pl : Nat} {r : List Nat} (hp : okp (pl :: r) = true) (hr : r ≠ [] → vl S i r ≠ 0) (hch : ∀ c, okp (c :: pl :: r) = true → vl S i (c :: pl :: r) = 0) (b : Nat) :
    ∀ j, j < z → ∀ q, okp q = true → vl (S.letGo i (vl S i r) pl b) j q = if j = i ∧ q = pl :: r then 0 else vl S j q := by
  intro j hj q hq
  unfold NS.letGo
  rw [← vl_take S b false i r, vl_put (z := z) (S.take b false) (by
      intro a c p q ha hc hp hq h1 h2
      rw [vl_take, vl_take] at h1
      rw [vl_take] at h2
      exact H.inj a c p q ha hc hp hq h1 h2) i hi pl r hp (by intro hn; rw [vl_take]; exact hr hn) 0 (by intro c hc; rw [vl_take]; exact hch c hc) (by intro h; exact absurd rfl h) j hj q hq, vl_take]
set_option maxRecDepth 100000 in
theorem letGo_inv {z da n : Nat} {S : NS} (H : Inv z da n S) {i : Nat} (hi : i < z) {pl : Nat} {r : List Nat} (hp : okp (pl :: r) = true) (hr : r ≠ [] → vl S i r ≠ 0) (hch : ∀ c, okp (c :: pl :: r) = true → vl S i (c :: pl :: r) = 0) (hv0 : vl S i (pl :: r) ≠ 0) : Inv z da n (S.letGo i (vl S i r) pl (vl S i (pl :: r))) := by
  have hv := letGo_vl H hi hp hr hch (vl S i (pl :: r))
  refine ⟨?_, ?_, ?_, ?_⟩
  · intro a c p q ha hc hp hq h1 h2
    rw [hv a ha p hp] at h1 h2
    rw [hv c hc q hq] at h1
    by_cases e1 : a = i ∧ p = pl :: r
    · rw [if_pos e1] at h2; exact absurd rfl h2
    · rw [if_neg e1] at h1 h2
      by_cases e2 : c = i ∧ q = pl :: r
      · rw [if_pos e2] at h1; exact absurd h1 h2
      · rw [if_neg e2] at h1
        exact H.inj a c p q ha hc hp hq h1 h2
  · intro a p ha hpp h2
    rw [letGo_tk]
    rw [hv a ha p hpp] at h2 ⊢
    by_cases e1 : a = i ∧ p = pl :: r
    · rw [if_pos e1] at h2; exact absurd rfl h2
    · rw [if_neg e1] at h2 ⊢
      rw [if_neg]
      · exact H.tkn a p ha hpp h2
      · intro e
        exact e1 (H.inj a i p _ ha hi hpp hp e h2)
  · intro a p ha hpp h2
    rw [hv a ha p hpp] at h2 ⊢
    by_cases e1 : a = i ∧ p = pl :: r
    · rw [if_pos e1] at h2; exact absurd rfl h2
    · rw [if_neg e1] at h2 ⊢
      exact H.rng a p ha hpp h2
  · intro c hc1 hc2 hct
    rw [letGo_tk] at hct
    by_cases e : c = vl S i (pl :: r)
    · rw [if_pos e] at hct; exact absurd hct (by simp)
    · rw [if_neg e] at hct
      obtain ⟨a, p, ha, hpp, e2⟩ := H.all c hc1 hc2 hct
      refine ⟨a, p, ha, hpp, ?_⟩
      rw [hv a ha p hpp, if_neg, e2]
      rintro ⟨rfl, rfl⟩
      exact e e2.symm
/-- blocks and inodes as functions -/
def ab (G : Geo) (B : List ByteArray) (N : Nat → Ino) : NS where
  rt := fun i p => if p < 8 then (datN G ((N i).at p)).toNat else 0
  bn := fun c q => if G.da ≤ c ∧ c < G.n then (datN G (namV (bk B c) (q : Int))).toNat else 0
  tk := fun b => tk (bk B G.bm).data.toList b
/-- inodes with another one -/
def upd (N : Nat → Ino) (i : Nat) (n : Ino) : Nat → Ino := fun j => if j = i then n else N j
set_option maxRecDepth 100000 in
theorem upd_self (N : Nat → Ino) (i : Nat) : upd N i (N i) = N := by
  funext j; unfold upd; by_cases e : j = i
  · rw [if_pos e, e]
  · rw [if_neg e]
set_option maxRecDepth 100000 in
theorem upd_at (N : Nat → Ino) (i : Nat) (n : Ino) : upd N i n i = n := by simp [upd]
set_option maxRecDepth 100000 in
theorem upd_ne (N : Nat → Ino) {i j : Nat} (n : Ino) (h : j ≠ i) : upd N i n j = N j := by simp [upd, h]
set_option maxRecDepth 100000 in
theorem upd_upd (N : Nat → Ino) (i : Nat) (n n' : Ino) : upd (upd N i n) i n' = upd N i n' := by
  funext j; unfold upd; split <;> rfl
set_option maxRecDepth 100000 in
theorem nm_root {G : Geo} {B : List ByteArray} {N : Nat → Ino} {i p : Nat} (h : p < 8) : nm G B (N i) 0 p = (ab G B N).rt i p := by
  simp [nm, nmd, nmx, ab, h]
set_option maxRecDepth 100000 in
theorem nm_in {G : Geo} (hG : G.Ok) {B : List ByteArray} (N : Nat → Ino) {n : Ino} {c q : Nat} (h1 : G.da ≤ c) (h2 : c < G.n) : nm G B n c q = (ab G B N).bn c q := by
  have h0 : c ≠ 0 := by have := hG.tz; have := hG.bt; omega
  simp [nm, nmd, nmx, ab, h0, h1, h2]
set_option maxRecDepth 100000 in
theorem datN_rng {G : Geo} {x : Int} (h : (datN G x).toNat ≠ 0) : G.da ≤ (datN G x).toNat ∧ (datN G x).toNat < G.n := by
  unfold datN at h ⊢
  split
  · omega
  · rename_i hn; rw [if_neg hn] at h; exact absurd rfl h
set_option maxRecDepth 100000 in
theorem vl_rng (G : Geo) (B : List ByteArray) (N : Nat → Ino) (i : Nat) : ∀ p, vl (ab G B N) i p ≠ 0 → G.da ≤ vl (ab G B N) i p ∧ vl (ab G B N) i p < G.n
  | [], h => absurd rfl h
  | [p], h => by
    simp only [vl, ab] at h ⊢
    split
    · rename_i hp; rw [if_pos hp] at h; exact datN_rng h
    · rename_i hp; rw [if_neg hp] at h; exact absurd rfl h
  | p :: q :: r, h => by
    rw [vl] at h ⊢
    by_cases e : vl (ab G B N) i (q :: r) = 0
    · rw [if_pos e] at h; exact absurd rfl h
    · rw [if_neg e] at h ⊢
      have ih := vl_rng G B N i (q :: r) e
      simp only [ab] at h ⊢
      split
      · rename_i hc; rw [if_pos hc] at h; exact datN_rng h
      · rename_i hc; rw [if_neg hc] at h; exact absurd rfl h
set_option maxRecDepth 100000 in
theorem okp_lt {pl : Nat} {r : List Nat} (h : okp (pl :: r) = true) : pl < 64 ∧ (r = [] → pl < 8) := by
  match r, h with
  | [], h => simp [okp] at h; exact ⟨by omega, fun _ => h⟩
  | [c], h => simp [okp] at h; exact ⟨by omega, fun h => by cases h⟩
  | [c, d], h => simp [okp] at h; exact ⟨by omega, fun h => by cases h⟩
  | c :: d :: e :: r, h => simp [okp] at h
set_option maxRecDepth 100000 in
theorem nm_vl {G : Geo} (hG : G.Ok) {B : List ByteArray} {N : Nat → Ino} {i pl : Nat} {r : List Nat} (hp : okp (pl :: r) = true) (hr : r ≠ [] → vl (ab G B N) i r ≠ 0) : nm G B (N i) (vl (ab G B N) i r) pl = vl (ab G B N) i (pl :: r) := by
  match r, hr, hp with
  | [], _, hp => exact nm_root ((okp_lt hp).2 rfl)
  | c :: r, hr, hp =>
    have h := hr (by simp)
    obtain ⟨h1, h2⟩ := vl_rng G B N i (c :: r) h
    rw [nm_in hG N h1 h2]
    conv => rhs; rw [vl]
    rw [if_neg h]
set_option maxRecDepth 100000 in
theorem ab_take {G : Geo} (hG : G.Ok) {B : List ByteArray} (hl : B.length = G.n) (hs : ∀ s ∈ B, s.size = 128) (N : Nat → Ino) {b : Nat} (hb : b < G.n) (t : Bool) : ab G (takeB G B b t) N = (ab G B N).take b t := by
  have hbm : G.bm < B.length := by have := hG.tz; have := hG.bt; have := hG.sum; have := hG.c4; omega
  have hbs : (bk B G.bm).size = 128 := hs _ (bk_mem hbm)
  unfold ab NS.take
  simp only [NS.mk.injEq, true_and]
  refine ⟨?_, ?_⟩
  · funext c q
    by_cases e : G.da ≤ c ∧ c < G.n
    · rw [if_pos e, if_pos e]
      unfold takeB
      rw [bk_set _ hbm, if_neg (by have := hG.tz; have := hG.bt; omega)]
    · rw [if_neg e, if_neg e]
  · funext c
    unfold takeB
    rw [bk_set _ hbm, if_pos rfl]
    have h1 : bitE (bk B G.bm) (b : Int) = 0 := by unfold bitE; rw [if_pos hbs, if_pos]; have := hG.n1; omega
    unfold setV
    rw [if_pos h1, st_list, stB_tk _ _ _ _ (by rw [len_list, hbs]; have := hG.n1; simp; omega)]
    simp only [Int.toNat_natCast]
    by_cases e : b = c
    · rw [if_pos e, if_pos e.symm]
    · rw [if_neg e, if_neg (fun h => e h.symm)]
set_option maxRecDepth 100000 in
theorem datN_zero {G : Geo} (hG : G.Ok) : datN G 0 = 0 := by unfold datN; rw [if_neg]; have := hG.tz; have := hG.bt; omega
set_option maxRecDepth 100000 in
theorem namV_zs (q : Nat) : namV (Zs 128) (q : Int) = 0 := by
  unfold namV
  split
  · unfold twoN Zs
    rw [st_list]
    have h : ∀ k, (List.replicate 128 (0 : UInt8)).getD k 0 = 0 := by
      intro k
      rw [List.getD_eq_getElem?_getD, List.getElem?_replicate]
      split <;> rfl
    rw [h, h]; rfl
  · rfl
set_option maxRecDepth 100000 in
theorem ab_zero {G : Geo} (hG : G.Ok) {B : List ByteArray} (hl : B.length = G.n) (N : Nat → Ino) {b : Nat} (hb : b < G.n) (hd : G.da ≤ b) : ab G (B.set b (Zs 128)) N = (ab G B N).zero b := by
  unfold ab NS.zero
  simp only [NS.mk.injEq, true_and]
  refine ⟨?_, ?_⟩
  · funext c q
    rw [bk_set _ (by omega)]
    by_cases e : b = c
    · subst e
      rw [if_pos ⟨hd, hb⟩, if_pos rfl, if_pos rfl, namV_zs, datN_zero hG]; rfl
    · rw [if_neg e, if_neg (show ¬ c = b from fun h => e h.symm)]
  · funext c
    rw [bk_set _ (by omega), if_neg (by have := hG.tz; have := hG.bt; omega)]
set_option maxRecDepth 100000 in
theorem at_put (n : Ino) (v : Int) (pl q : Nat) (hp : pl < 8) (hq : q < 8) : (n.put v pl).at q = if q = pl then v else n.at q := by
  have h : pl = 0 ∨ pl = 1 ∨ pl = 2 ∨ pl = 3 ∨ pl = 4 ∨ pl = 5 ∨ pl = 6 ∨ pl = 7 := by omega
  have h' : q = 0 ∨ q = 1 ∨ q = 2 ∨ q = 3 ∨ q = 4 ∨ q = 5 ∨ q = 6 ∨ q = 7 := by omega
  rcases h with rfl | rfl | rfl | rfl | rfl | rfl | rfl | rfl <;> rcases h' with rfl | rfl | rfl | rfl | rfl | rfl | rfl | rfl <;> rfl
set_option maxRecDepth 100000 in
theorem par64 {b : ByteArray} {i : Nat} (hb : b.size = 128) (hi : i < 64) : parE b (i : Int) 64 = 0 := by unfold parE; rw [if_pos hb, if_pos (by omega)]
set_option maxRecDepth 100000 in
theorem ren_list (b : ByteArray) (k t : Nat) (hb : b.size = 128) (_hk : k < 64) : (b.extract 0 (2 * k) ++ st (fEnc t 2) ++ b.extract (2 * k + 2) 128).data.toList = b.data.toList.take (2 * k) ++ (fEnc t 2 ++ b.data.toList.drop (2 * k + 2)) := by
  have hl := len_list b
  rw [cat_list, cat_list, ext_list, ext_list, st_list, List.drop_zero, List.take_of_length_le (l := b.data.toList) (i := 128) (by omega), List.append_assoc]
set_option maxRecDepth 100000 in
theorem ren_getD (b : ByteArray) (k t j : Nat) (hb : b.size = 128) (hk : k < 64) (_hj : j < 128) : (b.data.toList.take (2 * k) ++ (fEnc t 2 ++ b.data.toList.drop (2 * k + 2))).getD j 0 = if j < 2 * k then b.data.toList.getD j 0 else if j < 2 * k + 2 then (fEnc t 2).getD (j - 2 * k) 0 else b.data.toList.getD j 0 := by
  have hl := len_list b
  have hA : (b.data.toList.take (2 * k)).length = 2 * k := by rw [List.length_take]; omega
  have hE := fEnc_len 2 t
  simp only [List.getD_eq_getElem?_getD]
  by_cases h1 : j < 2 * k
  · rw [if_pos h1, List.getElem?_append_left (by omega), List.getElem?_take_of_lt h1]
  · rw [if_neg h1, List.getElem?_append_right (by omega), hA]
    by_cases h2 : j < 2 * k + 2
    · rw [if_pos h2, List.getElem?_append_left (by omega)]
    · rw [if_neg h2, List.getElem?_append_right (by omega), hE, List.getElem?_drop, show 2 * k + 2 + (j - 2 * k - 2) = j by omega]
set_option maxRecDepth 100000 in
theorem ren_two (b : ByteArray) (k t i : Nat) (hb : b.size = 128) (hk : k < 64) (ht : t < 1024) (hi : i < 64) : twoN (b.data.toList.take (2 * k) ++ (fEnc t 2 ++ b.data.toList.drop (2 * k + 2))) (2 * i) = if i = k then (t : Int) else twoN b.data.toList (2 * i) := by
  unfold twoN
  rw [ren_getD b k t (2 * i) hb hk (by omega), ren_getD b k t (2 * i + 1) hb hk (by omega)]
  by_cases h : i = k
  · subst h
    rw [if_pos rfl, if_neg (by omega), if_pos (by omega), if_neg (by omega), if_pos (by omega), Nat.sub_self, show 2 * i + 1 - 2 * i = 1 by omega]
    simp only [fEnc, List.getD_cons_zero, List.getD_cons_succ, UInt8.toNat_ofNat']
    omega
  · rw [if_neg h]
    by_cases h2 : i < k
    · rw [if_pos (by omega), if_pos (by omega)]
    · rw [if_neg (by omega), if_neg (by omega), if_neg (by omega), if_neg (by omega)]
set_option maxRecDepth 100000 in
theorem okN_n {v : Nat} (h : v < 1024) : okN (v : Int) = true := by unfold okN; exact decide_eq_true ⟨by omega, by omega⟩
set_option maxRecDepth 100000 in
theorem nam_ren (b : ByteArray) (k t q : Nat) (hb : b.size = 128) (hk : k < 64) (ht : t < 1024) : namV (renV b (k : Int) (t : Int)) (q : Int) = if q = k then (t : Int) else namV b (q : Int) := by
  have hs : (renV b (k : Int) (t : Int)).size = 128 := renV_size hb hk ht
  by_cases hq : q < 64
  · have e1 := par64 hs hq
    have e2 := par64 hb hq
    unfold namV
    rw [if_pos e1, if_pos e2]
    have hr : renE b (k : Int) (t : Int) = 0 := by unfold renE; rw [if_pos (par64 hb hk), if_pos (okN_n ht)]
    unfold renV
    rw [if_pos hr]
    simp only [Int.toNat_natCast]
    rw [ren_list b k t hb hk, ren_two b k t q hb hk ht hq]
  · have e1 : parE (renV b (k : Int) (t : Int)) (q : Int) 64 ≠ 0 := by unfold parE; rw [if_pos hs, if_neg (by omega)]; decide
    have e2 : parE b (q : Int) 64 ≠ 0 := by unfold parE; rw [if_pos hb, if_neg (by omega)]; decide
    unfold namV
    rw [if_neg e1, if_neg e2, if_neg (by omega)]
set_option maxRecDepth 100000 in
theorem datN_dat {G : Geo} {b : Nat} (h : b = 0 ∨ G.da ≤ b ∧ b < G.n) (hG : G.Ok) : (datN G (b : Int)).toNat = b := by
  rcases h with rfl | ⟨h1, h2⟩
  · rw [Int.natCast_zero, datN_zero hG]; rfl
  · unfold datN; rw [if_pos (by omega)]; rfl
set_option maxRecDepth 100000 in
theorem ab_put {G : Geo} (hG : G.Ok) {B : List ByteArray} (hl : B.length = G.n) (hs : ∀ s ∈ B, s.size = 128) (N : Nat → Ino) (i inn pl b : Nat) (hp : pl < 64) (h0 : inn = 0 → pl < 8) (hi : inn ≠ 0 → G.da ≤ inn ∧ inn < G.n) (hb : b = 0 ∨ G.da ≤ b ∧ b < G.n) : ab G (namB B inn pl b) (upd N i (namN (N i) inn pl b)) = (ab G B N).put i inn pl b := by
  unfold NS.put namB namN
  by_cases e : inn = 0
  · rw [if_pos e, if_pos e, if_pos e]
    unfold ab
    simp only [NS.mk.injEq, and_true]
    funext j q
    by_cases hq : q < 8
    · rw [if_pos hq]
      by_cases ej : j = i
      · subst ej
        rw [upd_at, at_put _ _ _ _ (h0 e) hq]
        by_cases eq : q = pl
        · rw [if_pos eq, if_pos ⟨rfl, eq⟩, datN_dat hb hG]
        · rw [if_neg eq, if_neg (fun h => eq h.2), if_pos hq]
      · rw [upd_ne _ _ ej, if_neg (fun h => ej h.1), if_pos hq]
    · rw [if_neg hq, if_neg, if_neg hq]
      rintro ⟨_, rfl⟩
      exact hq (h0 e)
  · rw [if_neg e, if_neg e, if_neg e, upd_self]
    obtain ⟨hi1, hi2⟩ := hi e
    unfold ab
    simp only [NS.mk.injEq, true_and]
    refine ⟨?_, ?_⟩
    · funext c q
      rw [bk_set _ (by omega)]
      by_cases ec : c = inn
      · subst ec
        have hbs : (bk B c).size = 128 := hs _ (bk_mem (by omega))
        rw [if_pos ⟨hi1, hi2⟩, if_pos rfl, nam_ren _ _ _ _ hbs hp (by have := hG.n1; omega)]
        by_cases eq : q = pl
        · rw [if_pos eq, if_pos ⟨rfl, eq⟩, datN_dat hb hG]
        · rw [if_neg eq, if_neg (fun h => eq h.2), if_pos ⟨hi1, hi2⟩]
      · rw [if_neg (show ¬ inn = c from fun h => ec h.symm), if_neg (show ¬ (c = inn ∧ q = pl) from fun h => ec h.1)]
    · funext c
      rw [bk_set _ (by omega), if_neg (by have := hG.tz; have := hG.bt; omega)]
/-- blocks and inodes in which no block is named twice -/
structure SI (G : Geo) (B : List ByteArray) (N : Nat → Ino) : Prop where
  ok : G.Ok
  bl : B.length = G.n
  bs : ∀ s ∈ B, s.size = 128
  inv : Inv G.z G.da G.n (ab G B N)
set_option maxRecDepth 100000 in
theorem Geo.Ok.da0 {G : Geo} (h : G.Ok) : 0 < G.da := by have := h.tz; have := h.bt; omega
set_option maxRecDepth 100000 in
theorem Geo.Ok.bmda {G : Geo} (h : G.Ok) : G.bm < G.da := by have := h.tz; have := h.bt; omega
set_option maxRecDepth 100000 in
theorem Geo.Ok.dan {G : Geo} (h : G.Ok) : G.da < G.n := by have := h.sum; have := h.c4; omega
/-- more is named, at places of one file that P tells, and new data blocks are all 0; what was named stays, and what it holds -/
structure Ext (G : Geo) (i : Nat) (P : List Nat → Prop) (B : List ByteArray) (N : Nat → Ino) (B' : List ByteArray) (N' : Nat → Ino) : Prop where
  si : SI G B' N'
  oth : ∀ j, j ≠ i → N' j = N j
  hd : (N' i).k = (N i).k ∧ (N' i).l = (N i).l ∧ (N' i).z = (N i).z
  low : ∀ c, c < G.da → c ≠ G.bm → bk B' c = bk B c
  keep : ∀ j q, j < G.z → okp q = true → vl (ab G B N) j q ≠ 0 → vl (ab G B' N') j q = vl (ab G B N) j q
  cont : ∀ j q, j < G.z → okp q = true → okp (0 :: q) = false → vl (ab G B N) j q ≠ 0 → bk B' (vl (ab G B N) j q) = bk B (vl (ab G B N) j q)
  new : ∀ j q, j < G.z → okp q = true → vl (ab G B N) j q = 0 → vl (ab G B' N') j q ≠ 0 → j = i ∧ P q ∧ (okp (0 :: q) = false → bk B' (vl (ab G B' N') j q) = Zs 128)
set_option maxRecDepth 100000 in
theorem Ext.refl {G : Geo} {B : List ByteArray} {N : Nat → Ino} (h : SI G B N) (i : Nat) (P : List Nat → Prop) : Ext G i P B N B N :=
  ⟨h, fun _ _ => rfl, ⟨rfl, rfl, rfl⟩, fun _ _ _ => rfl, fun _ _ _ _ _ => rfl, fun _ _ _ _ _ _ => rfl, fun _ _ _ _ h h' => absurd h h'⟩
set_option maxRecDepth 100000 in
theorem Ext.trans {G : Geo} {i : Nat} {P : List Nat → Prop} {B B1 B2 : List ByteArray} {N N1 N2 : Nat → Ino} (h : Ext G i P B N B1 N1) (k : Ext G i P B1 N1 B2 N2) : Ext G i P B N B2 N2 := by
  refine ⟨k.si, fun j hj => (k.oth j hj).trans (h.oth j hj), ⟨k.hd.1.trans h.hd.1, k.hd.2.1.trans h.hd.2.1, k.hd.2.2.trans h.hd.2.2⟩, fun c h1 h2 => (k.low c h1 h2).trans (h.low c h1 h2), ?_, ?_, ?_⟩
  · intro j q hj hq hv
    have e := h.keep j q hj hq hv
    rw [k.keep j q hj hq (by rw [e]; exact hv), e]
  · intro j q hj hq hl hv
    have e := h.keep j q hj hq hv
    have := k.cont j q hj hq hl (by rw [e]; exact hv)
    rw [e] at this
    rw [this, h.cont j q hj hq hl hv]
  · intro j q hj hq h0 h2
    by_cases h1 : vl (ab G B1 N1) j q = 0
    · exact k.new j q hj hq h1 h2
    · obtain ⟨e1, e2, e3⟩ := h.new j q hj hq h0 h1
      refine ⟨e1, e2, fun hl => ?_⟩
      rw [k.keep j q hj hq h1, k.cont j q hj hq hl h1]
      exact e3 hl
set_option maxRecDepth 100000 in
theorem Ext.mono {G : Geo} {i : Nat} {P Q : List Nat → Prop} {B B1 : List ByteArray} {N N1 : Nat → Ino} (h : Ext G i P B N B1 N1) (hq : ∀ q, P q → Q q) : Ext G i Q B N B1 N1 :=
  ⟨h.si, h.oth, h.hd, h.low, h.keep, h.cont, fun j q a b c d => ⟨(h.new j q a b c d).1, hq _ (h.new j q a b c d).2.1, (h.new j q a b c d).2.2⟩⟩
set_option maxRecDepth 100000 in
theorem put_hd (n : Ino) (v : Int) (pl : Nat) : (n.put v pl).k = n.k ∧ (n.put v pl).l = n.l ∧ (n.put v pl).z = n.z := by
  unfold Ino.put; split <;> exact ⟨rfl, rfl, rfl⟩
set_option maxRecDepth 100000 in
theorem nam_hd (n : Ino) (inn pl v : Nat) : (namN n inn pl v).k = n.k ∧ (namN n inn pl v).l = n.l ∧ (namN n inn pl v).z = n.z := by
  unfold namN; split
  · exact put_hd n _ _
  · exact ⟨rfl, rfl, rfl⟩
set_option maxRecDepth 100000 in
theorem namB_len (B : List ByteArray) (inn pl v : Nat) : (namB B inn pl v).length = B.length := by unfold namB; split <;> simp
set_option maxRecDepth 100000 in
theorem namB_bk {B : List ByteArray} {inn pl v c : Nat} (hi : inn < B.length) (h : inn ≠ 0 → c ≠ inn) : bk (namB B inn pl v) c = bk B c := by
  unfold namB; split
  · rfl
  · rename_i h0; rw [bk_set _ hi, if_neg (fun e => h h0 e.symm)]
set_option maxRecDepth 100000 in
theorem namB_sizes {B : List ByteArray} {inn pl v : Nat} (hi : inn < B.length) (hs : ∀ s ∈ B, s.size = 128) (hp : pl < 64) (hv : v < 1024) : ∀ s ∈ namB B inn pl v, s.size = 128 := by
  unfold namB; split
  · exact hs
  · exact set_sizes hs (renV_size (hs _ (bk_mem hi)) hp hv)
set_option maxRecDepth 100000 in
theorem takeB_sizes {G : Geo} (hG : G.Ok) {B : List ByteArray} (hl : B.length = G.n) (hs : ∀ s ∈ B, s.size = 128) {b : Nat} (hb : b < G.n) (t : Bool) : ∀ s ∈ takeB G B b t, s.size = 128 := by
  have hbm : G.bm < B.length := by have := hG.bmda; have := hG.dan; omega
  exact set_sizes hs (setV_size t (hs _ (bk_mem hbm)) (by have := hG.n1; omega))
set_option maxRecDepth 100000 in
theorem takeB_len (G : Geo) (B : List ByteArray) (b : Nat) (t : Bool) : (takeB G B b t).length = B.length := by unfold takeB; simp
set_option maxRecDepth 100000 in
theorem inn_rng {G : Geo} {B : List ByteArray} {N : Nat → Ino} {i : Nat} {r : List Nat} (h : vl (ab G B N) i r ≠ 0) : G.da ≤ vl (ab G B N) i r ∧ vl (ab G B N) i r < G.n := vl_rng G B N i r h
set_option maxRecDepth 100000 in
theorem tail_ok {pl : Nat} {r : List Nat} (h : okp (pl :: r) = true) (hr : r ≠ []) : okp r = true := by
  match r, h, hr with
  | [], _, hr => exact absurd rfl hr
  | c :: r, h, _ => exact okp_tail h
set_option maxRecDepth 100000 in
theorem tail_namer {pl : Nat} {r : List Nat} (h : okp (pl :: r) = true) (hr : r ≠ []) : okp (0 :: r) = true := by
  match r, h, hr with
  | [], _, hr => exact absurd rfl hr
  | [c], h, _ => simp [okp] at h ⊢; omega
  | [c, d], h, _ => simp [okp] at h ⊢; omega
  | c :: d :: e :: r, h, _ => simp [okp] at h
set_option maxRecDepth 100000 in
set_option maxHeartbeats 1000000 in
theorem mk_ext {G : Geo} {B : List ByteArray} {N : Nat → Ino} (H : SI G B N) {i : Nat} (hi : i < G.z) {pl : Nat} {r : List Nat} (hp : okp (pl :: r) = true) (hr : r ≠ [] → vl (ab G B N) i r ≠ 0) (h0 : vl (ab G B N) i (pl :: r) = 0) {b : Nat} (hb : fre G B = some b) :
    Ext G i (· = pl :: r) B N (mkB G B (vl (ab G B N) i r) pl b) (upd N i (namN (N i) (vl (ab G B N) i r) pl b)) ∧ vl (ab G (mkB G B (vl (ab G B N) i r) pl b) (upd N i (namN (N i) (vl (ab G B N) i r) pl b))) i (pl :: r) = b ∧ b ≠ 0 := by
  have hG := H.ok
  obtain ⟨hbn, hb0, hbd⟩ := fre_lt hG hb
  obtain ⟨hp64, hp8⟩ := okp_lt hp
  have ht : (ab G B N).tk b = false := (lsF_some hb).2.2.1
  have hin : vl (ab G B N) i r ≠ 0 → G.da ≤ vl (ab G B N) i r ∧ vl (ab G B N) i r < G.n := inn_rng
  have hin0 : vl (ab G B N) i r = 0 → pl < 8 := by
    intro e
    refine hp8 ?_
    by_cases hr0 : r = []
    · exact hr0
    · exact absurd e (hr hr0)
  have hl1 : (takeB G B b true).length = G.n := by rw [takeB_len]; exact H.bl
  have hs1 := takeB_sizes hG H.bl H.bs hbn true
  have hl2 : ((takeB G B b true).set b (Zs 128)).length = G.n := by simpa using hl1
  have hs2 : ∀ s ∈ (takeB G B b true).set b (Zs 128), s.size = 128 := set_sizes hs1 (Zs_size 128)
  have hil : vl (ab G B N) i r < ((takeB G B b true).set b (Zs 128)).length := by
    rw [hl2]
    by_cases e : vl (ab G B N) i r = 0
    · rw [e]; have := hG.dan; omega
    · exact (hin e).2
  have eab : ab G (mkB G B (vl (ab G B N) i r) pl b) (upd N i (namN (N i) (vl (ab G B N) i r) pl b)) = (ab G B N).make i (vl (ab G B N) i r) pl b := by
    unfold mkB
    rw [ab_put hG hl2 hs2 N i _ pl b hp64 hin0 hin (.inr ⟨hbd, hbn⟩), ab_zero hG hl1 N hbn hbd, ab_take hG H.bl H.bs N hbn]
    rfl
  have hv := make_vl H.inv hi hp hr h0 ht hG.da0 hbd
  have hI := make_inv H.inv hi hp hr h0 ht hG.da0 hbd hbn
  have hbmn : G.bm < B.length := by rw [H.bl]; have := hG.bmda; have := hG.dan; omega
  have hfr : ∀ j q, j < G.z → okp q = true → vl (ab G B N) j q ≠ b := by
    intro j q hj hq e
    have := H.inv.tkn j q hj hq (by omega)
    rw [e, ht] at this
    exact absurd this (by simp)
  have hbk : ∀ c, c ≠ G.bm → c ≠ b → (vl (ab G B N) i r ≠ 0 → c ≠ vl (ab G B N) i r) → bk (mkB G B (vl (ab G B N) i r) pl b) c = bk B c := by
    intro c h1 h2 h3
    unfold mkB
    rw [namB_bk hil h3, bk_set _ (by omega), if_neg (fun e => h2 e.symm)]
    unfold takeB
    rw [bk_set _ hbmn, if_neg (fun e => h1 e.symm)]
  have hbi : b ≠ vl (ab G B N) i r := by
    by_cases hr0 : r = []
    · subst hr0; exact hb0
    · exact (hfr i r hi (tail_ok hp hr0)).symm
  refine ⟨⟨⟨hG, ?_, ?_, ?_⟩, ?_, ?_, ?_, ?_, ?_, ?_⟩, ?_, hb0⟩
  · unfold mkB; rw [namB_len]; exact hl2
  · exact namB_sizes hil hs2 hp64 (by have := hG.n1; omega)
  · rw [eab]; exact hI
  · intro j hj; exact upd_ne _ _ hj
  · rw [upd_at]; exact nam_hd _ _ _ _
  · intro c h1 h2
    exact hbk c h2 (by omega) (fun e => by have := hin e; omega)
  · intro j q hj hq h
    rw [eab, hv j hj q hq, if_neg]
    rintro ⟨rfl, rfl⟩
    exact h h0
  · intro j q hj hq hl h
    have h1 := inn_rng h
    refine hbk _ (by have := hG.bmda; omega) (hfr j q hj hq) ?_
    intro _ e
    have hr0 : r ≠ [] := by rintro rfl; exact h e
    obtain ⟨_, rfl⟩ := H.inv.inj j i q r hj hi hq (tail_ok hp hr0) e h
    rw [tail_namer hp hr0] at hl
    exact absurd hl (by simp)
  · intro j q hj hq h1 h2
    rw [eab, hv j hj q hq] at h2 ⊢
    by_cases e : j = i ∧ q = pl :: r
    · refine ⟨e.1, e.2, fun _ => ?_⟩
      rw [if_pos e]
      unfold mkB
      rw [namB_bk hil (fun _ => hbi), bk_set _ (by omega), if_pos rfl]
    · rw [if_neg e] at h2; exact absurd h1 h2
  · rw [eab, hv i hi _ hp, if_pos ⟨rfl, rfl⟩]
/-- the path of an index -/
def pth (x : Nat) : List Nat := if x < 6 then [x] else if x < 70 then [x - 6, 6] else [(x - 70) % 64, (x - 70) / 64, 7]
set_option maxRecDepth 100000 in
theorem pth_ok {x : Nat} (h : x < 4166) : okp (pth x) = true := by
  unfold pth
  split
  · simp [okp]; omega
  · split
    · simp [okp]; omega
    · simp [okp]; omega
set_option maxRecDepth 100000 in
theorem pth_leaf (x : Nat) : okp (0 :: pth x) = false := by
  unfold pth
  split
  · simp [okp]; omega
  · split
    · simp [okp]
    · simp [okp]
set_option maxRecDepth 100000 in
theorem pth_inj {x y : Nat} (h : pth x = pth y) : x = y := by
  unfold pth at h
  split at h <;> split at h <;> (try split at h) <;> (try split at h) <;> simp at h <;> omega
set_option maxRecDepth 100000 in
theorem leaf_pth {q : List Nat} (hq : okp q = true) (hl : okp (0 :: q) = false) : ∃ x, x < 4166 ∧ q = pth x := by
  match q, hq, hl with
  | [], hq, _ => simp [okp] at hq
  | [a], hq, hl =>
    simp [okp] at hq hl
    exact ⟨a, by omega, by unfold pth; rw [if_pos (by omega)]⟩
  | [a, b], hq, hl =>
    simp [okp] at hq hl
    have hb : b = 6 := by omega
    subst hb
    refine ⟨a + 6, by omega, ?_⟩
    unfold pth; rw [if_neg (by omega), if_pos (by omega), Nat.add_sub_cancel]
  | [a, b, c], hq, _ =>
    simp [okp] at hq
    obtain ⟨⟨h1, h2⟩, rfl⟩ := hq
    refine ⟨70 + 64 * b + a, by omega, ?_⟩
    unfold pth
    rw [if_neg (by omega), if_neg (by omega), show (70 + 64 * b + a - 70) % 64 = a by omega, show (70 + 64 * b + a - 70) / 64 = b by omega]
  | a :: b :: c :: d :: r, hq, _ => simp [okp] at hq
set_option maxRecDepth 100000 in
theorem blk_vl {G : Geo} (hG : G.Ok) {B : List ByteArray} {N : Nat → Ino} {i x : Nat} (hx : x < 4166) : blk G B (N i) x = vl (ab G B N) i (pth x) := by
  have h6 : nm G B (N i) 0 6 = vl (ab G B N) i [6] := nm_vl hG (r := []) rfl (fun h => absurd rfl h)
  have h7 : nm G B (N i) 0 7 = vl (ab G B N) i [7] := nm_vl hG (r := []) rfl (fun h => absurd rfl h)
  unfold blk spt pth
  by_cases c0 : x < 6
  · simp only [if_pos c0]
    exact nm_vl hG (r := []) (by simp [okp]; omega) (fun h => absurd rfl h)
  · simp only [if_neg c0]
    by_cases c1 : x < 70
    · simp only [if_pos c1]
      by_cases e : nm G B (N i) 0 6 = 0
      · simp only [if_pos e]
        rw [h6] at e
        exact (child0 e _).symm
      · simp only [if_neg e]
        rw [h6] at e ⊢
        exact nm_vl hG (by simp [okp]; omega) (fun _ => e)
    · simp only [if_neg c1]
      by_cases e : nm G B (N i) 0 7 = 0
      · simp only [if_pos e]
        rw [h7] at e
        exact (child0 (child0 e _) _).symm
      · simp only [if_neg e]
        rw [h7] at e ⊢
        have hm : nm G B (N i) (vl (ab G B N) i [7]) ((x - 70) / 64) = vl (ab G B N) i [(x - 70) / 64, 7] := nm_vl hG (by simp [okp]; omega) (fun _ => e)
        rw [hm]
        by_cases e2 : vl (ab G B N) i [(x - 70) / 64, 7] = 0
        · simp only [if_pos e2]
          exact (child0 e2 _).symm
        · simp only [if_neg e2]
          exact nm_vl hG (by simp [okp]; omega) (fun _ => e2)
set_option maxRecDepth 100000 in
theorem mkS_ext {G : Geo} {B : List ByteArray} {N : Nat → Ino} (H : SI G B N) {i : Nat} (hi : i < G.z) {pl : Nat} {r : List Nat} (hp : okp (pl :: r) = true) (hr : r ≠ [] → vl (ab G B N) i r ≠ 0) (h0 : vl (ab G B N) i (pl :: r) = 0) {b : Nat} {B' : List ByteArray} {n' : Ino} (hm : mkS G B (N i) (vl (ab G B N) i r) pl = (some b, B', n')) :
    Ext G i (· = pl :: r) B N B' (upd N i n') ∧ vl (ab G B' (upd N i n')) i (pl :: r) = b ∧ b ≠ 0 := by
  unfold mkS at hm
  cases hf : fre G B with
  | none => rw [hf] at hm; simp at hm
  | some c =>
    rw [hf] at hm
    simp only [Prod.mk.injEq, Option.some.injEq] at hm
    obtain ⟨rfl, rfl, rfl⟩ := hm
    exact mk_ext H hi hp hr h0 hf
set_option maxRecDepth 100000 in
theorem stS_ext {G : Geo} {B : List ByteArray} {N : Nat → Ino} (H : SI G B N) {i : Nat} (hi : i < G.z) {pl : Nat} {r : List Nat} (hp : okp (pl :: r) = true) (hr : r ≠ [] → vl (ab G B N) i r ≠ 0) {b : Nat} {B' : List ByteArray} {n' : Ino} (hm : stS G B (N i) (vl (ab G B N) i r) pl = (some b, B', n')) :
    Ext G i (· = pl :: r) B N B' (upd N i n') ∧ vl (ab G B' (upd N i n')) i (pl :: r) = b ∧ b ≠ 0 := by
  unfold stS at hm
  by_cases e : nm G B (N i) (vl (ab G B N) i r) pl = 0
  · rw [if_pos e] at hm
    rw [nm_vl H.ok hp hr] at e
    exact mkS_ext H hi hp hr e hm
  · rw [if_neg e] at hm
    simp only [Prod.mk.injEq, Option.some.injEq] at hm
    obtain ⟨rfl, rfl, rfl⟩ := hm
    rw [upd_self]
    exact ⟨Ext.refl H i _, (nm_vl H.ok hp hr).symm, e⟩
/-- a path's own places -/
def onp (x : Nat) (q : List Nat) : Prop := ∃ t, t ++ q = pth x
set_option maxRecDepth 100000 in
theorem rch_ext {G : Geo} {B : List ByteArray} {N : Nat → Ino} (H : SI G B N) {i : Nat} (hi : i < G.z) {x : Nat} (hx : x < 4166) {b : Nat} {B' : List ByteArray} {n' : Ino} (hm : rchS G B (N i) x = (some b, B', n')) :
    Ext G i (onp x) B N B' (upd N i n') ∧ vl (ab G B' (upd N i n')) i (pth x) = b ∧ b ≠ 0 := by
  unfold rchS at hm
  rw [blk_vl H.ok hx] at hm
  by_cases e : vl (ab G B N) i (pth x) = 0
  · rw [if_pos e] at hm
    by_cases c0 : x < 6
    · rw [if_pos c0] at hm
      have ep : pth x = [x] := by unfold pth; rw [if_pos c0]
      rw [ep] at e ⊢
      obtain ⟨h1, h2, h3⟩ := mkS_ext H hi (pl := x) (r := []) (by simp [okp]; omega) (fun h => absurd rfl h) e hm
      exact ⟨h1.mono (fun q hq => ⟨[], by rw [hq, ep]; rfl⟩), h2, h3⟩
    · rw [if_neg c0] at hm
      by_cases c1 : x < 70
      · rw [if_pos c1] at hm
        have ep : pth x = [x - 6, 6] := by unfold pth; rw [if_neg c0, if_pos c1]
        rw [ep] at e ⊢
        obtain ⟨o, B1, n1, hst⟩ : ∃ o B1 n1, stS G B (N i) 0 6 = (o, B1, n1) := ⟨_, _, _, rfl⟩
        rw [hst] at hm
        cases o with
        | none => simp at hm
        | some a =>
          simp only at hm
          obtain ⟨h1, h2, h3⟩ := stS_ext H hi (pl := 6) (r := []) rfl (fun h => absurd rfl h) hst
          have e1 : vl (ab G B1 (upd N i n1)) i [x - 6, 6] = 0 := by
            by_cases k : vl (ab G B1 (upd N i n1)) i [x - 6, 6] = 0
            · exact k
            · have := (h1.new i _ hi (by simp [okp]; omega) e k).2.1
              simp at this
          have hm2 : mkS G B1 (upd N i n1 i) (vl (ab G B1 (upd N i n1)) i [6]) (x - 6) = (some b, B', n') := by rw [upd_at, h2]; exact hm
          obtain ⟨k1, k2, k3⟩ := mkS_ext h1.si hi (pl := x - 6) (r := [6]) (by simp [okp]; omega) (fun _ => by rw [h2]; exact h3) e1 hm2
          rw [upd_upd] at k1 k2
          exact ⟨(h1.mono (fun q hq => ⟨[x - 6], by rw [hq, ep]; rfl⟩)).trans (k1.mono (fun q hq => ⟨[], by rw [hq, ep]; rfl⟩)), k2, k3⟩
      · rw [if_neg c1] at hm
        have ep : pth x = [(x - 70) % 64, (x - 70) / 64, 7] := by unfold pth; rw [if_neg c0, if_neg c1]
        rw [ep] at e ⊢
        have hj : (x - 70) / 64 < 64 := by omega
        have hk : (x - 70) % 64 < 64 := by omega
        obtain ⟨j, hjj⟩ : ∃ j, j = (x - 70) / 64 := ⟨_, rfl⟩
        obtain ⟨k, hkk⟩ : ∃ k, k = (x - 70) % 64 := ⟨_, rfl⟩
        rw [← hjj, ← hkk] at hm e ep ⊢
        rw [← hjj] at hj
        rw [← hkk] at hk
        obtain ⟨o, B1, n1, hst⟩ : ∃ o B1 n1, stS G B (N i) 0 7 = (o, B1, n1) := ⟨_, _, _, rfl⟩
        rw [hst] at hm
        cases o with
        | none => simp at hm
        | some a =>
          simp only at hm
          obtain ⟨h1, h2, h3⟩ := stS_ext H hi (pl := 7) (r := []) rfl (fun h => absurd rfl h) hst
          obtain ⟨o, B2, n2, hst2⟩ : ∃ o B2 n2, stS G B1 n1 a j = (o, B2, n2) := ⟨_, _, _, rfl⟩
          rw [hst2] at hm
          cases o with
          | none => simp at hm
          | some c =>
            simp only at hm
            have hst3 : stS G B1 (upd N i n1 i) (vl (ab G B1 (upd N i n1)) i [7]) j = (some c, B2, n2) := by rw [upd_at, h2]; exact hst2
            obtain ⟨g1, g2, g3⟩ := stS_ext h1.si hi (pl := j) (r := [7]) (by simp [okp]; omega) (fun _ => by rw [h2]; exact h3) hst3
            rw [upd_upd] at g1 g2
            have g := (h1.mono (Q := onp x) (fun q hq => ⟨[k, j], by rw [hq, ep]; rfl⟩)).trans (g1.mono (fun q hq => ⟨[k], by rw [hq, ep]; rfl⟩))
            have e1 : vl (ab G B1 (upd N i n1)) i [k, j, 7] = 0 := by
              by_cases y : vl (ab G B1 (upd N i n1)) i [k, j, 7] = 0
              · exact y
              · have := (h1.new i _ hi (by simp [okp]; omega) e y).2.1
                simp at this
            have e2 : vl (ab G B2 (upd N i n2)) i [k, j, 7] = 0 := by
              by_cases y : vl (ab G B2 (upd N i n2)) i [k, j, 7] = 0
              · exact y
              · have := (g1.new i _ hi (by simp [okp]; omega) e1 y).2.1
                simp at this
            have hm2 : mkS G B2 (upd N i n2 i) (vl (ab G B2 (upd N i n2)) i [j, 7]) k = (some b, B', n') := by rw [upd_at, g2]; exact hm
            obtain ⟨k1, k2, k3⟩ := mkS_ext g.si hi (pl := k) (r := [j, 7]) (by simp [okp]; omega) (fun _ => by rw [g2]; exact g3) e2 hm2
            rw [upd_upd] at k1 k2
            exact ⟨g.trans (k1.mono (fun q hq => ⟨[], by rw [hq, ep]; rfl⟩)), k2, k3⟩
  · rw [if_neg e] at hm
    simp only [Prod.mk.injEq, Option.some.injEq] at hm
    obtain ⟨rfl, rfl, rfl⟩ := hm
    rw [upd_self]
    exact ⟨Ext.refl H i _, rfl, e⟩
set_option maxRecDepth 100000 in
theorem vl_congr {z : Nat} {S S' : NS} (hrt : ∀ i p, S'.rt i p = S.rt i p) (hbn : ∀ j r c, j < z → okp (0 :: r) = true → vl S j r ≠ 0 → S'.bn (vl S j r) c = S.bn (vl S j r) c) (j : Nat) (hj : j < z) : ∀ q, okp q = true → vl S' j q = vl S j q
  | [], _ => rfl
  | [_], _ => hrt _ _
  | a :: c :: r, h => by
    have ih := vl_congr hrt hbn j hj (c :: r) (okp_tail h)
    rw [vl, vl, ih]
    by_cases e : vl S j (c :: r) = 0
    · rw [if_pos e, if_pos e]
    · rw [if_neg e, if_neg e]
      exact hbn j (c :: r) a hj (tail_namer h (by simp)) e
set_option maxRecDepth 100000 in
theorem Inv.congr {z da n : Nat} {S S' : NS} (H : Inv z da n S) (hv : ∀ j, j < z → ∀ q, okp q = true → vl S' j q = vl S j q) (ht : ∀ b, S'.tk b = S.tk b) : Inv z da n S' := by
  refine ⟨?_, ?_, ?_, ?_⟩
  · intro a c p q ha hc hp hq h1 h2
    rw [hv a ha p hp, hv c hc q hq] at h1
    rw [hv a ha p hp] at h2
    exact H.inj a c p q ha hc hp hq h1 h2
  · intro a p ha hp h2
    rw [hv a ha p hp] at h2 ⊢
    rw [ht]
    exact H.tkn a p ha hp h2
  · intro a p ha hp h2
    rw [hv a ha p hp] at h2 ⊢
    exact H.rng a p ha hp h2
  · intro b h1 h2 h3
    rw [ht] at h3
    obtain ⟨a, p, ha, hp, e⟩ := H.all b h1 h2 h3
    exact ⟨a, p, ha, hp, by rw [hv a ha p hp, e]⟩
set_option maxRecDepth 100000 in
theorem set_leaf {G : Geo} {B : List ByteArray} {N : Nat → Ino} (H : SI G B N) {i : Nat} (hi : i < G.z) {p : List Nat} (hp : okp p = true) (hl : okp (0 :: p) = false) (h0 : vl (ab G B N) i p ≠ 0) {d : ByteArray} (hd : d.size = 128) :
    SI G (B.set (vl (ab G B N) i p) d) N ∧ ∀ j, j < G.z → ∀ q, okp q = true → vl (ab G (B.set (vl (ab G B N) i p) d) N) j q = vl (ab G B N) j q := by
  obtain ⟨h1, h2⟩ := inn_rng h0
  have hlt : vl (ab G B N) i p < B.length := by rw [H.bl]; exact h2
  have hv : ∀ j, j < G.z → ∀ q, okp q = true → vl (ab G (B.set (vl (ab G B N) i p) d) N) j q = vl (ab G B N) j q := by
    intro j hj q hq
    refine vl_congr (z := G.z) (S := ab G B N) (S' := ab G (B.set (vl (ab G B N) i p) d) N) (fun _ _ => rfl) ?_ j hj q hq
    intro a r c ha hr hn
    have hne : ¬ vl (ab G B N) i p = vl (ab G B N) a r := by
      intro e
      have hrr : okp r = true := by
        match r, hr, hn with
        | [], _, hn => exact absurd rfl hn
        | c :: r, hr, _ => exact okp_tail hr
      obtain ⟨_, rfl⟩ := H.inv.inj i a p r hi ha hp hrr e h0
      rw [hl] at hr
      exact absurd hr (by simp)
    show (if G.da ≤ vl (ab G B N) a r ∧ vl (ab G B N) a r < G.n then (datN G (namV (bk (B.set (vl (ab G B N) i p) d) (vl (ab G B N) a r)) (c : Int))).toNat else 0) = _
    rw [bk_set _ hlt, if_neg hne]
    rfl
  refine ⟨⟨H.ok, by simp [H.bl], set_sizes H.bs hd, H.inv.congr hv ?_⟩, hv⟩
  intro b
  show tk (bk (B.set (vl (ab G B N) i p) d) G.bm).data.toList b = _
  rw [bk_set _ hlt, if_neg (by have := H.ok.bmda; omega)]
  rfl
/-- a file's byte -/
def fby (G : Geo) (B : List ByteArray) (N : Nat → Ino) (j a : Nat) : UInt8 := if vl (ab G B N) j (pth (a / 128)) = 0 then 0 else (bk B (vl (ab G B N) j (pth (a / 128)))).data.toList.getD (a % 128) 0
set_option maxRecDepth 100000 in
theorem zs_getD (k : Nat) : (Zs 128).data.toList.getD k 0 = 0 := by
  unfold Zs
  rw [st_list, List.getD_eq_getElem?_getD, List.getElem?_replicate]
  split <;> rfl
set_option maxRecDepth 100000 in
theorem Ext.fby {G : Geo} {i : Nat} {P : List Nat → Prop} {B B' : List ByteArray} {N N' : Nat → Ino} (h : Ext G i P B N B' N') {j a : Nat} (hj : j < G.z) (ha : a < 533248) : fby G B' N' j a = fby G B N j a := by
  have hp : okp (pth (a / 128)) = true := pth_ok (by omega)
  have hl := pth_leaf (a / 128)
  unfold YtokjlgebkihimaaGreat.fby
  by_cases e : vl (ab G B N) j (pth (a / 128)) = 0
  · rw [if_pos e]
    by_cases e2 : vl (ab G B' N') j (pth (a / 128)) = 0
    · rw [if_pos e2]
    · rw [if_neg e2, (h.new j _ hj hp e e2).2.2 hl, zs_getD]
  · rw [if_neg e, h.keep j _ hj hp e, if_neg e, h.cont j _ hj hp hl e]
set_option maxRecDepth 100000 in
theorem ovl_sz : ∀ (bs l : List UInt8) (o : Nat), (ovl l o bs).length = l.length
  | [], _, _ => rfl
  | b :: bs, l, o => by rw [ovl, ovl_sz bs]; simp
set_option maxRecDepth 100000 in
theorem ovl_get : ∀ (bs l : List UInt8) (o k : Nat), o + bs.length ≤ l.length → (ovl l o bs).getD k 0 = if o ≤ k ∧ k < o + bs.length then bs.getD (k - o) 0 else l.getD k 0
  | [], l, o, k, _ => by rw [ovl, if_neg (by simp)]
  | b :: bs, l, o, k, h => by
    simp only [List.length_cons] at h
    rw [ovl, ovl_get bs (l.set o b) (o + 1) k (by simp; omega)]
    simp only [List.length_cons]
    by_cases e : k = o
    · subst e
      rw [if_neg (by omega), if_pos (by omega), Nat.sub_self]
      simp only [List.getD_eq_getElem?_getD, List.getElem?_cons_zero]
      rw [List.getElem?_set_self (by omega)]
    · have hs : (l.set o b).getD k 0 = l.getD k 0 := by
        simp only [List.getD_eq_getElem?_getD]
        rw [List.getElem?_set_ne (fun h => e h.symm)]
      rw [hs]
      by_cases c : o + 1 ≤ k ∧ k < o + 1 + bs.length
      · rw [if_pos c, if_pos (by omega)]
        simp only [List.getD_eq_getElem?_getD]
        rw [show k - o = (k - (o + 1)) + 1 by omega, List.getElem?_cons_succ]
      · rw [if_neg c, if_neg (by omega)]
/-- bytes laid over a file from a place on: all that it does to the blocks -/
structure Laid (G : Geo) (i x : Nat) (d : List UInt8) (B : List ByteArray) (N : Nat → Ino) (B' : List ByteArray) (N' : Nat → Ino) : Prop where
  si : SI G B' N'
  oth : ∀ j, j ≠ i → N' j = N j
  hd : (N' i).k = (N i).k ∧ (N' i).l = (N i).l ∧ (N' i).z = (N i).z
  low : ∀ c, c < G.da → c ≠ G.bm → bk B' c = bk B c
  keep : ∀ j q, j < G.z → okp q = true → vl (ab G B N) j q ≠ 0 → vl (ab G B' N') j q = vl (ab G B N) j q
  new : ∀ j q, j < G.z → okp q = true → vl (ab G B N) j q = 0 → vl (ab G B' N') j q ≠ 0 → j = i ∧ ∃ y, y < 4166 ∧ y * 128 < x + d.length ∧ onp y q ∧ vl (ab G B' N') i (pth y) ≠ 0
  fby : ∀ j a, j < G.z → a < 533248 → fby G B' N' j a = if j = i ∧ x ≤ a ∧ a < x + d.length then d.getD (a - x) 0 else fby G B N j a
set_option maxRecDepth 100000 in
set_option maxHeartbeats 1000000 in
theorem lay_laid {G : Geo} {i : Nat} (hi : i < G.z) : ∀ (f : Nat) {B : List ByteArray} {N : Nat → Ino} {x : Nat} {d : List UInt8} {B' : List ByteArray} {n' : Ino}, SI G B N → d.length ≤ f → x + d.length ≤ 533248 → layS G f B (N i) x d = (0, B', n') → Laid G i x d B N B' (upd N i n')
  | f, B, N, x, d, B', n', H, hf, hx, hL => by
    by_cases h0 : d.length = 0
    · rw [layS_done h0] at hL
      simp only [Prod.mk.injEq, true_and] at hL
      obtain ⟨rfl, rfl⟩ := hL
      rw [upd_self]
      refine ⟨H, fun _ _ => rfl, ⟨rfl, rfl, rfl⟩, fun _ _ _ => rfl, fun _ _ _ _ _ => rfl, fun _ _ _ _ h h' => absurd h h', ?_⟩
      intro j a _ _
      rw [if_neg (by omega)]
    · match f, hf, hL with
      | 0, hf, _ => omega
      | f + 1, hf, hL =>
        obtain ⟨o, B1, n1, hr⟩ : ∃ o B1 n1, rchS G B (N i) (x / 128) = (o, B1, n1) := ⟨_, _, _, rfl⟩
        cases o with
        | none =>
          rw [layS_fail h0 hr] at hL
          simp at hL
        | some b =>
          rw [layS_next h0 hr] at hL
          have hy : x / 128 < 4166 := by omega
          obtain ⟨hE, hb, hb0⟩ := rch_ext H hi hy hr
          have hp := pth_ok hy
          have hlf := pth_leaf (x / 128)
          obtain ⟨m, hm⟩ : ∃ m, m = min d.length (128 - x % 128) := ⟨_, rfl⟩
          rw [← hm] at hL
          have hv0 : vl (ab G B1 (upd N i n1)) i (pth (x / 128)) ≠ 0 := by rw [hb]; exact hb0
          have hrg := inn_rng hv0
          rw [hb] at hrg
          have hsz : (bk B1 b).size = 128 := hE.si.bs _ (bk_mem (by rw [hE.si.bl]; exact hrg.2))
          have hlen : (bk B1 b).data.toList.length = 128 := by rw [len_list, hsz]
          obtain ⟨D, hD⟩ : ∃ D, D = st (ovl (bk B1 b).data.toList (x % 128) (d.take m)) := ⟨_, rfl⟩
          have hDs : D.size = 128 := by rw [hD, st_size, ovl_sz, hlen]
          rw [← hD] at hL
          obtain ⟨hS2, hv2⟩ := set_leaf hE.si hi hp hlf hv0 hDs
          rw [hb] at hS2 hv2
          have hL2 : layS G f (B1.set b D) (upd N i n1 i) (x + m) (d.drop m) = (0, B', n') := by rw [upd_at]; exact hL
          have hdl : (d.drop m).length = d.length - m := List.length_drop
          have ih := lay_laid hi f hS2 (by omega) (by omega) hL2
          rw [upd_upd] at ih
          have hbl : b < B1.length := by rw [hE.si.bl]; exact hrg.2
          refine ⟨ih.si, ?_, ?_, ?_, ?_, ?_, ?_⟩
          · intro j hj; rw [ih.oth j hj, hE.oth j hj]
          · exact ⟨ih.hd.1.trans hE.hd.1, ih.hd.2.1.trans hE.hd.2.1, ih.hd.2.2.trans hE.hd.2.2⟩
          · intro c h1 h2
            rw [ih.low c h1 h2, bk_set _ hbl, if_neg (by omega), hE.low c h1 h2]
          · intro j q hj hq h
            have e1 := hE.keep j q hj hq h
            rw [ih.keep j q hj hq (by rw [hv2 j hj q hq, e1]; exact h), hv2 j hj q hq, e1]
          · intro j q hj hq h1 h2
            by_cases h3 : vl (ab G B1 (upd N i n1)) j q = 0
            · obtain ⟨e1, y, y1, y2, y3, y4⟩ := ih.new j q hj hq (by rw [hv2 j hj q hq]; exact h3) h2
              exact ⟨e1, y, y1, by rw [hdl] at y2; omega, y3, y4⟩
            · obtain ⟨e1, e2, _⟩ := hE.new j q hj hq h1 h3
              refine ⟨e1, x / 128, hy, by omega, e2, ?_⟩
              rw [ih.keep i _ hi hp (by rw [hv2 i hi _ hp]; exact hv0), hv2 i hi _ hp]
              exact hv0
          · intro j a hj ha
            rw [ih.fby j a hj ha]
            have hpa : okp (pth (a / 128)) = true := pth_ok (by omega)
            have hb2 : YtokjlgebkihimaaGreat.fby G (B1.set b D) (upd N i n1) j a = if j = i ∧ a / 128 = x / 128 then D.data.toList.getD (a % 128) 0 else YtokjlgebkihimaaGreat.fby G B1 (upd N i n1) j a := by
              unfold YtokjlgebkihimaaGreat.fby
              rw [hv2 j hj _ hpa]
              by_cases e : vl (ab G B1 (upd N i n1)) j (pth (a / 128)) = 0
              · rw [if_pos e, if_pos e, if_neg]
                rintro ⟨rfl, e2⟩
                rw [e2] at e
                exact hv0 e
              · rw [if_neg e, if_neg e, bk_set _ hbl]
                by_cases c : j = i ∧ a / 128 = x / 128
                · obtain ⟨rfl, c⟩ := c
                  rw [if_pos (show j = j ∧ a / 128 = x / 128 from ⟨rfl, c⟩), c, hb, if_pos rfl]
                · rw [if_neg c, if_neg]
                  intro e2
                  rw [← hb] at e2
                  obtain ⟨k1, k2⟩ := hE.si.inv.inj i j _ _ hi hj hp hpa e2 hv0
                  exact c ⟨k1.symm, (pth_inj k2).symm⟩
            have hold := hE.fby hj ha
            have hlx : x % 128 < 128 := Nat.mod_lt _ (by decide)
            have htl : (d.take m).length = m := by rw [List.length_take]; omega
            have hDg : ∀ k, D.data.toList.getD k 0 = if x % 128 ≤ k ∧ k < x % 128 + m then (d.take m).getD (k - x % 128) 0 else (bk B1 b).data.toList.getD k 0 := by
              intro k
              rw [hD, st_list, ovl_get _ _ _ _ (by omega), htl]
            rw [hdl, hb2, hold]
            by_cases c1 : j = i ∧ x + m ≤ a ∧ a < x + m + (d.length - m)
            · rw [if_pos c1, if_pos ⟨c1.1, by omega, by omega⟩]
              simp only [List.getD_eq_getElem?_getD]
              rw [List.getElem?_drop, show m + (a - (x + m)) = a - x by omega]
            · rw [if_neg c1]
              by_cases c2 : j = i ∧ a / 128 = x / 128
              · rw [if_pos c2, hDg]
                by_cases c3 : x ≤ a ∧ a < x + m
                · rw [if_pos (by omega), if_pos ⟨c2.1, by omega, by omega⟩]
                  simp only [List.getD_eq_getElem?_getD]
                  rw [List.getElem?_take_of_lt (by omega), show a % 128 - x % 128 = a - x by omega]
                · rw [if_neg (by omega), if_neg (by rintro ⟨k1, k2, k3⟩; exact c1 ⟨k1, by omega, by omega⟩), ← hold]
                  unfold YtokjlgebkihimaaGreat.fby
                  rw [c2.1, c2.2, hb, if_neg hb0]
              · rw [if_neg c2, if_neg]
                rintro ⟨e1, e2, e3⟩
                have : a < x + m := by
                  by_cases k : a < x + m
                  · exact k
                  · exact absurd ⟨e1, by omega, by omega⟩ c1
                exact c2 ⟨e1, by omega⟩
/-- less is named, at places of one file that P tells; all else is as it was -/
structure Cutr (G : Geo) (i : Nat) (P : List Nat → Prop) (B : List ByteArray) (N : Nat → Ino) (B' : List ByteArray) (N' : Nat → Ino) : Prop where
  si : SI G B' N'
  oth : ∀ j, j ≠ i → N' j = N j
  hd : (N' i).k = (N i).k ∧ (N' i).l = (N i).l ∧ (N' i).z = (N i).z
  low : ∀ c, c < G.da → c ≠ G.bm → bk B' c = bk B c
  vlq : ∀ j q, j < G.z → okp q = true → vl (ab G B' N') j q = vl (ab G B N) j q ∨ j = i ∧ P q ∧ vl (ab G B' N') j q = 0
  cont : ∀ j q, j < G.z → okp q = true → okp (0 :: q) = false → vl (ab G B' N') j q ≠ 0 → bk B' (vl (ab G B N) j q) = bk B (vl (ab G B N) j q)
set_option maxRecDepth 100000 in
theorem Cutr.refl {G : Geo} {B : List ByteArray} {N : Nat → Ino} (h : SI G B N) (i : Nat) (P : List Nat → Prop) : Cutr G i P B N B N :=
  ⟨h, fun _ _ => rfl, ⟨rfl, rfl, rfl⟩, fun _ _ _ => rfl, fun _ _ _ _ => .inl rfl, fun _ _ _ _ _ _ => rfl⟩
set_option maxRecDepth 100000 in
theorem Cutr.mono {G : Geo} {i : Nat} {P Q : List Nat → Prop} {B B1 : List ByteArray} {N N1 : Nat → Ino} (h : Cutr G i P B N B1 N1) (hq : ∀ q, P q → Q q) : Cutr G i Q B N B1 N1 :=
  ⟨h.si, h.oth, h.hd, h.low, fun j q a b => (h.vlq j q a b).imp id (fun h => ⟨h.1, hq _ h.2.1, h.2.2⟩), h.cont⟩
set_option maxRecDepth 100000 in
/-- what is 0 stays so -/
theorem Cutr.zero {G : Geo} {i : Nat} {P : List Nat → Prop} {B B1 : List ByteArray} {N N1 : Nat → Ino} (h : Cutr G i P B N B1 N1) {j : Nat} {q : List Nat} (hj : j < G.z) (hq : okp q = true) (h0 : vl (ab G B N) j q = 0) : vl (ab G B1 N1) j q = 0 := by
  rcases h.vlq j q hj hq with e | e
  · rw [e, h0]
  · exact e.2.2
set_option maxRecDepth 100000 in
theorem Cutr.trans {G : Geo} {i : Nat} {P : List Nat → Prop} {B B1 B2 : List ByteArray} {N N1 N2 : Nat → Ino} (h : Cutr G i P B N B1 N1) (k : Cutr G i P B1 N1 B2 N2) : Cutr G i P B N B2 N2 := by
  refine ⟨k.si, fun j hj => (k.oth j hj).trans (h.oth j hj), ⟨k.hd.1.trans h.hd.1, k.hd.2.1.trans h.hd.2.1, k.hd.2.2.trans h.hd.2.2⟩, fun c h1 h2 => (k.low c h1 h2).trans (h.low c h1 h2), ?_, ?_⟩
  · intro j q hj hq
    rcases h.vlq j q hj hq with e | e
    · rcases k.vlq j q hj hq with e' | e'
      · exact .inl (e'.trans e)
      · exact .inr e'
    · exact .inr ⟨e.1, e.2.1, k.zero hj hq e.2.2⟩
  · intro j q hj hq hl h0
    have e2 : vl (ab G B2 N2) j q = vl (ab G B1 N1) j q := (k.vlq j q hj hq).resolve_right (fun e => h0 e.2.2)
    have h1 : vl (ab G B1 N1) j q ≠ 0 := by rw [← e2]; exact h0
    have e1 : vl (ab G B1 N1) j q = vl (ab G B N) j q := (h.vlq j q hj hq).resolve_right (fun e => h1 e.2.2)
    rw [← e1, k.cont j q hj hq hl h0, e1, h.cont j q hj hq hl h1]
set_option maxRecDepth 100000 in
theorem lg_cut {G : Geo} {B : List ByteArray} {N : Nat → Ino} (H : SI G B N) {i : Nat} (hi : i < G.z) {pl : Nat} {r : List Nat} (hp : okp (pl :: r) = true) (hr : r ≠ [] → vl (ab G B N) i r ≠ 0) (hch : ∀ c, okp (c :: pl :: r) = true → vl (ab G B N) i (c :: pl :: r) = 0) :
    Cutr G i (· = pl :: r) B N (lgS G B (N i) (vl (ab G B N) i r) pl).1 (upd N i (lgS G B (N i) (vl (ab G B N) i r) pl).2) ∧ vl (ab G (lgS G B (N i) (vl (ab G B N) i r) pl).1 (upd N i (lgS G B (N i) (vl (ab G B N) i r) pl).2)) i (pl :: r) = 0 := by
  have hG := H.ok
  have hnm := nm_vl hG hp hr
  unfold lgS
  rw [hnm]
  by_cases e : vl (ab G B N) i (pl :: r) = 0
  · rw [if_pos e, upd_self]
    exact ⟨Cutr.refl H i _, e⟩
  · rw [if_neg e]
    obtain ⟨hp64, hp8⟩ := okp_lt hp
    obtain ⟨hbd, hbn⟩ := inn_rng e
    have hin : vl (ab G B N) i r ≠ 0 → G.da ≤ vl (ab G B N) i r ∧ vl (ab G B N) i r < G.n := inn_rng
    have hin0 : vl (ab G B N) i r = 0 → pl < 8 := by
      intro e
      refine hp8 ?_
      by_cases hr0 : r = []
      · exact hr0
      · exact absurd e (hr hr0)
    have hl1 : (takeB G B (vl (ab G B N) i (pl :: r)) false).length = G.n := by rw [takeB_len]; exact H.bl
    have hs1 := takeB_sizes hG H.bl H.bs hbn false
    have hil : vl (ab G B N) i r < (takeB G B (vl (ab G B N) i (pl :: r)) false).length := by
      rw [hl1]
      by_cases e : vl (ab G B N) i r = 0
      · rw [e]; have := hG.dan; omega
      · exact (hin e).2
    have eab : ab G (namB (takeB G B (vl (ab G B N) i (pl :: r)) false) (vl (ab G B N) i r) pl 0) (upd N i (namN (N i) (vl (ab G B N) i r) pl 0)) = (ab G B N).letGo i (vl (ab G B N) i r) pl (vl (ab G B N) i (pl :: r)) := by
      rw [ab_put hG hl1 hs1 N i _ pl 0 hp64 hin0 hin (.inl rfl), ab_take hG H.bl H.bs N hbn]
      rfl
    have hv := letGo_vl H.inv hi hp hr hch (vl (ab G B N) i (pl :: r))
    have hI := letGo_inv H.inv hi hp hr hch e
    have hbmn : G.bm < B.length := by rw [H.bl]; have := hG.bmda; have := hG.dan; omega
    have hbk : ∀ c, c ≠ G.bm → (vl (ab G B N) i r ≠ 0 → c ≠ vl (ab G B N) i r) → bk (namB (takeB G B (vl (ab G B N) i (pl :: r)) false) (vl (ab G B N) i r) pl 0) c = bk B c := by
      intro c h1 h3
      rw [namB_bk hil h3]
      unfold takeB
      rw [bk_set _ hbmn, if_neg (fun e => h1 e.symm)]
    refine ⟨⟨⟨hG, ?_, ?_, ?_⟩, ?_, ?_, ?_, ?_, ?_⟩, ?_⟩
    · simp only; rw [namB_len]; exact hl1
    · exact namB_sizes hil hs1 hp64 (by omega)
    · simp only; rw [eab]; exact hI
    · intro j hj; exact upd_ne _ _ hj
    · rw [upd_at]; exact nam_hd _ _ _ _
    · intro c h1 h2
      exact hbk c h2 (fun e => by have := hin e; omega)
    · intro j q hj hq
      simp only
      rw [eab, hv j hj q hq]
      by_cases e : j = i ∧ q = pl :: r
      · exact .inr ⟨e.1, e.2, by rw [if_pos e]⟩
      · exact .inl (by rw [if_neg e])
    · intro j q hj hq hl h
      simp only at h
      rw [eab, hv j hj q hq] at h
      replace h : vl (ab G B N) j q ≠ 0 := by
        by_cases c : j = i ∧ q = pl :: r
        · rw [if_pos c] at h; exact absurd rfl h
        · rw [if_neg c] at h; exact h
      have h1 := inn_rng h
      refine hbk _ (by have := hG.bmda; omega) ?_
      intro _ e
      have hr0 : r ≠ [] := by rintro rfl; exact h e
      obtain ⟨_, rfl⟩ := H.inv.inj j i q r hj hi hq (tail_ok hp hr0) e h
      rw [tail_namer hp hr0] at hl
      exact absurd hl (by simp)
    · simp only; rw [eab, hv i hi _ hp, if_pos ⟨rfl, rfl⟩]
set_option maxRecDepth 100000 in
theorem spt_vl {G : Geo} (hG : G.Ok) {B : List ByteArray} {N : Nat → Ino} {i x : Nat} (hx : x < 4166) : (spt G B (N i) x = none ∧ vl (ab G B N) i (pth x) = 0) ∨ ∃ pl r, pth x = pl :: r ∧ spt G B (N i) x = some (vl (ab G B N) i r, pl) ∧ (r ≠ [] → vl (ab G B N) i r ≠ 0) := by
  have h6 : nm G B (N i) 0 6 = vl (ab G B N) i [6] := nm_vl hG (r := []) rfl (fun h => absurd rfl h)
  have h7 : nm G B (N i) 0 7 = vl (ab G B N) i [7] := nm_vl hG (r := []) rfl (fun h => absurd rfl h)
  unfold spt pth
  by_cases c0 : x < 6
  · rw [if_pos c0, if_pos c0]
    exact .inr ⟨x, [], rfl, rfl, fun h => absurd rfl h⟩
  · rw [if_neg c0, if_neg c0]
    by_cases c1 : x < 70
    · rw [if_pos c1, if_pos c1, h6]
      by_cases e : vl (ab G B N) i [6] = 0
      · rw [if_pos e]
        exact .inl ⟨rfl, child0 e _⟩
      · rw [if_neg e]
        exact .inr ⟨x - 6, [6], rfl, rfl, fun _ => e⟩
    · rw [if_neg c1, if_neg c1, h7]
      by_cases e : vl (ab G B N) i [7] = 0
      · rw [if_pos e]
        exact .inl ⟨rfl, child0 (child0 e _) _⟩
      · rw [if_neg e]
        have hm : nm G B (N i) (vl (ab G B N) i [7]) ((x - 70) / 64) = vl (ab G B N) i [(x - 70) / 64, 7] := nm_vl hG (by simp [okp]; omega) (fun _ => e)
        rw [hm]
        by_cases e2 : vl (ab G B N) i [(x - 70) / 64, 7] = 0
        · rw [if_pos e2]
          exact .inl ⟨rfl, child0 e2 _⟩
        · rw [if_neg e2]
          exact .inr ⟨_, [(x - 70) / 64, 7], rfl, rfl, fun _ => e2⟩
set_option maxRecDepth 100000 in
theorem leaf_child {x c : Nat} : okp (c :: pth x) = false := by
  have h := pth_leaf x
  unfold pth at h ⊢
  split
  · rename_i h1; rw [if_pos h1] at h; simp [okp] at h ⊢; omega
  · rename_i h1; rw [if_neg h1] at h
    split
    · rename_i h2; rw [if_pos h2] at h; simp [okp] at h ⊢
    · rename_i h2; rw [if_neg h2] at h; simp [okp] at h ⊢
set_option maxRecDepth 100000 in
theorem lf_cut {G : Geo} {i : Nat} (hi : i < G.z) : ∀ (f : Nat) {B : List ByteArray} {N : Nat → Ino} {y : Nat}, SI G B N → y + f ≤ 4166 →
    Cutr G i (fun q => ∃ x, y ≤ x ∧ x < y + f ∧ q = pth x) B N (lfS G f B (N i) y).1 (upd N i (lfS G f B (N i) y).2) ∧ ∀ x, y ≤ x → x < y + f → vl (ab G (lfS G f B (N i) y).1 (upd N i (lfS G f B (N i) y).2)) i (pth x) = 0
  | 0, B, N, y, H, _ => by
    unfold lfS
    rw [upd_self]
    exact ⟨Cutr.refl H i _, fun x h1 h2 => by omega⟩
  | f + 1, B, N, y, H, hy => by
    rcases spt_vl H.ok (B := B) (N := N) (i := i) (x := y) (by omega) with ⟨h1, h2⟩ | ⟨pl, r, h1, h2, h3⟩
    · rw [lfS_none h1]
      obtain ⟨k1, k2⟩ := lf_cut hi f (y := y + 1) H (by omega)
      refine ⟨k1.mono (fun q ⟨x, a, b, c⟩ => ⟨x, by omega, by omega, c⟩), fun x a b => ?_⟩
      by_cases e : x = y
      · rw [e]; exact k1.zero hi (pth_ok (by omega)) h2
      · exact k2 x (by omega) (by omega)
    · rw [lfS_some h2]
      have hp : okp (pl :: r) = true := by rw [← h1]; exact pth_ok (by omega)
      obtain ⟨g1, g2⟩ := lg_cut H hi hp h3 (by intro c hc; rw [← h1, leaf_child] at hc; exact absurd hc (by simp))
      obtain ⟨B1, hB1⟩ : ∃ B1, B1 = (lgS G B (N i) (vl (ab G B N) i r) pl).1 := ⟨_, rfl⟩
      obtain ⟨n1, hn1⟩ : ∃ n1, n1 = (lgS G B (N i) (vl (ab G B N) i r) pl).2 := ⟨_, rfl⟩
      rw [← hB1, ← hn1] at g1 g2 ⊢
      obtain ⟨k1, k2⟩ := lf_cut hi f (y := y + 1) g1.si (by omega)
      rw [upd_at, upd_upd] at k1 k2
      refine ⟨(g1.mono (fun q hq => ⟨y, by omega, by omega, by rw [hq, h1]⟩)).trans (k1.mono (fun q ⟨x, a, b, c⟩ => ⟨x, by omega, by omega, c⟩)), fun x a b => ?_⟩
      by_cases e : x = y
      · rw [e]; exact k1.zero hi (pth_ok (by omega)) (by rw [h1]; exact g2)
      · exact k2 x (by omega) (by omega)
set_option maxRecDepth 100000 in
theorem bare_yes {G : Geo} {B : List ByteArray} {n : Ino} {c : Nat} : ∀ {t : Nat}, bare G B n c t = true → ∀ k, k < t → nm G B n c k = 0
  | 0, _, k, hk => by omega
  | t + 1, h, k, hk => by
    unfold bare at h
    rw [Bool.and_eq_true] at h
    by_cases e : k = t
    · rw [e]; exact of_decide_eq_true h.2
    · exact bare_yes h.1 k (by omega)
set_option maxRecDepth 100000 in
theorem bare_not {G : Geo} {B : List ByteArray} {n : Ino} {c : Nat} : ∀ {t : Nat}, ¬ bare G B n c t = true → ∃ k, k < t ∧ nm G B n c k ≠ 0
  | 0, h => absurd rfl h
  | t + 1, h => by
    by_cases e : nm G B n c t = 0
    · unfold bare at h
      rw [decide_eq_true e, Bool.and_true] at h
      obtain ⟨k, hk, hn⟩ := bare_not h
      exact ⟨k, by omega, hn⟩
    · exact ⟨t, by omega, e⟩
set_option maxRecDepth 100000 in
theorem namer_c {p : List Nat} {c : Nat} (h : okp (0 :: p) = true) (hc : c < 64) (hp : p ≠ []) : okp (c :: p) = true := by
  match p, h, hp with
  | [], _, hp => exact absurd rfl hp
  | [a], h, _ => simp [okp] at h ⊢; omega
  | [a, b], h, _ => simp [okp] at h ⊢; omega
  | a :: b :: d :: r, h, _ => simp [okp] at h
set_option maxRecDepth 100000 in
theorem id_cut {G : Geo} {B : List ByteArray} {N : Nat → Ino} (H : SI G B N) {i : Nat} (hi : i < G.z) {pl : Nat} {r : List Nat} (hn : okp (0 :: pl :: r) = true) (hr : r ≠ [] → vl (ab G B N) i r ≠ 0) :
    Cutr G i (· = pl :: r) B N (idS G B (N i) (vl (ab G B N) i r) pl).1 (upd N i (idS G B (N i) (vl (ab G B N) i r) pl).2) ∧ (vl (ab G (idS G B (N i) (vl (ab G B N) i r) pl).1 (upd N i (idS G B (N i) (vl (ab G B N) i r) pl).2)) i (pl :: r) ≠ 0 → ∃ c, okp (c :: pl :: r) = true ∧ vl (ab G (idS G B (N i) (vl (ab G B N) i r) pl).1 (upd N i (idS G B (N i) (vl (ab G B N) i r) pl).2)) i (c :: pl :: r) ≠ 0) := by
  have hp := okp_tail hn
  unfold idS
  rw [nm_vl H.ok hp hr]
  by_cases e : vl (ab G B N) i (pl :: r) = 0
  · rw [if_pos e, upd_self]
    exact ⟨Cutr.refl H i _, fun h => absurd e h⟩
  · rw [if_neg e]
    unfold idT
    by_cases b : bare G B (N i) (vl (ab G B N) i (pl :: r)) 64 = true
    · rw [if_pos b]
      have hch : ∀ c, okp (c :: pl :: r) = true → vl (ab G B N) i (c :: pl :: r) = 0 := by
        intro c hc
        rw [← nm_vl H.ok hc (fun _ => e)]
        exact bare_yes b c (okp_lt hc).1
      obtain ⟨g1, g2⟩ := lg_cut H hi hp hr hch
      exact ⟨g1, fun h => absurd g2 h⟩
    · rw [if_neg b, upd_self]
      refine ⟨Cutr.refl H i _, fun _ => ?_⟩
      obtain ⟨c, hc, hcn⟩ := bare_not b
      have hc2 := namer_c hn hc (by simp)
      rw [nm_vl H.ok hc2 (fun _ => e)] at hcn
      exact ⟨c, hc2, hcn⟩
/-- a block of names that is there names one -/
def Bsy (S : NS) (i : Nat) (p : List Nat) : Prop := vl S i p ≠ 0 → ∃ c, okp (c :: p) = true ∧ vl S i (c :: p) ≠ 0
set_option maxRecDepth 100000 in
theorem Cutr.bsy {G : Geo} {i : Nat} {P : List Nat → Prop} {B B1 : List ByteArray} {N N1 : Nat → Ino} (h : Cutr G i P B N B1 N1) {p : List Nat} (hi : i < G.z) (hp : okp p = true) (hP : ∀ c, okp (c :: p) = true → ¬ P (c :: p)) (hb : Bsy (ab G B N) i p) : Bsy (ab G B1 N1) i p := by
  intro h1
  have e : vl (ab G B1 N1) i p = vl (ab G B N) i p := (h.vlq i p hi hp).resolve_right (fun e => h1 e.2.2)
  rw [e] at h1
  obtain ⟨c, hc, hv⟩ := hb h1
  refine ⟨c, hc, ?_⟩
  rw [(h.vlq i _ hi hc).resolve_right (fun e => hP c hc e.2.1)]
  exact hv
set_option maxRecDepth 100000 in
theorem nm_cut {G : Geo} {i : Nat} (hi : i < G.z) : ∀ (f : Nat) {B : List ByteArray} {N : Nat → Ino} {j c : Nat}, SI G B N → j + f ≤ 64 → c = vl (ab G B N) i [7] → c ≠ 0 →
    Cutr G i (fun q => ∃ k, k < 64 ∧ q = [k, 7]) B N (nmS G c f B (N i) j).1 (upd N i (nmS G c f B (N i) j).2) ∧ ∀ k, j ≤ k → k < j + f → Bsy (ab G (nmS G c f B (N i) j).1 (upd N i (nmS G c f B (N i) j).2)) i [k, 7]
  | 0, B, N, j, c, H, _, _, _ => by
    unfold nmS
    rw [upd_self]
    exact ⟨Cutr.refl H i _, fun x h1 h2 => by omega⟩
  | f + 1, B, N, j, c, H, hy, hc, hc0 => by
    unfold nmS
    subst hc
    obtain ⟨g1, g2⟩ := id_cut H hi (pl := j) (r := [7]) (by simp [okp]; omega) (fun _ => hc0)
    obtain ⟨B1, hB1⟩ : ∃ B1, B1 = (idS G B (N i) (vl (ab G B N) i [7]) j).1 := ⟨_, rfl⟩
    obtain ⟨n1, hn1⟩ : ∃ n1, n1 = (idS G B (N i) (vl (ab G B N) i [7]) j).2 := ⟨_, rfl⟩
    rw [← hB1, ← hn1] at g1 g2 ⊢
    have e7 : vl (ab G B1 (upd N i n1)) i [7] = vl (ab G B N) i [7] := (g1.vlq i [7] hi rfl).resolve_right (fun e => by have := e.2.1; simp at this)
    obtain ⟨k1, k2⟩ := nm_cut hi f (j := j + 1) g1.si (by omega) e7.symm hc0
    rw [upd_at, upd_upd] at k1 k2
    refine ⟨(g1.mono (fun q hq => ⟨j, by omega, hq⟩)).trans k1, fun x a b => ?_⟩
    by_cases e : x = j
    · subst e
      exact k1.bsy hi (by simp [okp]; omega) (by rintro c _ ⟨k, _, h⟩; simp at h) g2
    · exact k2 x (by omega) (by omega)
/-- a place of a block of names -/
def nmr (q : List Nat) : Prop := okp (0 :: q) = true
set_option maxRecDepth 100000 in
theorem nr_cut {G : Geo} {B : List ByteArray} {N : Nat → Ino} (H : SI G B N) {i : Nat} (hi : i < G.z) : Cutr G i nmr B N (nrS G B (N i)).1 (upd N i (nrS G B (N i)).2) ∧ ∀ p, p ≠ [] → okp (0 :: p) = true → Bsy (ab G (nrS G B (N i)).1 (upd N i (nrS G B (N i)).2)) i p := by
  have h7 : nm G B (N i) 0 7 = vl (ab G B N) i [7] := nm_vl H.ok (r := []) rfl (fun h => absurd rfl h)
  have s1 : Cutr G i nmr B N (n1S G B (N i)).1 (upd N i (n1S G B (N i)).2) ∧ ∀ k, k < 64 → Bsy (ab G (n1S G B (N i)).1 (upd N i (n1S G B (N i)).2)) i [k, 7] := by
    unfold n1S
    rw [h7]
    by_cases e : vl (ab G B N) i [7] = 0
    · rw [if_pos e, upd_self]
      exact ⟨Cutr.refl H i _, fun k _ h => absurd (child0 e k) h⟩
    · rw [if_neg e]
      obtain ⟨k1, k2⟩ := nm_cut hi 64 (j := 0) H (by omega) rfl e
      exact ⟨k1.mono (by rintro q ⟨k, hk, rfl⟩; unfold nmr; simp [okp]; omega), fun k hk => k2 k (by omega) (by omega)⟩
  obtain ⟨B1, hB1⟩ : ∃ B1, B1 = (n1S G B (N i)).1 := ⟨_, rfl⟩
  obtain ⟨n1, hn1⟩ : ∃ n1, n1 = (n1S G B (N i)).2 := ⟨_, rfl⟩
  rw [← hB1, ← hn1] at s1
  obtain ⟨a1, a2⟩ := s1
  have s2 := id_cut a1.si hi (pl := 6) (r := []) rfl (fun h => absurd rfl h)
  rw [upd_at, upd_upd] at s2
  have e2 : n2S G B (N i) = idS G B1 n1 (vl (ab G B1 (upd N i n1)) i []) 6 := by unfold n2S; rw [hB1, hn1]; rfl
  rw [← e2] at s2
  obtain ⟨B2, hB2⟩ : ∃ B2, B2 = (n2S G B (N i)).1 := ⟨_, rfl⟩
  obtain ⟨n2, hn2⟩ : ∃ n2, n2 = (n2S G B (N i)).2 := ⟨_, rfl⟩
  rw [← hB2, ← hn2] at s2
  obtain ⟨b1, b2⟩ := s2
  have s3 := id_cut b1.si hi (pl := 7) (r := []) rfl (fun h => absurd rfl h)
  rw [upd_at, upd_upd] at s3
  have e3 : nrS G B (N i) = idS G B2 n2 (vl (ab G B2 (upd N i n2)) i []) 7 := by unfold nrS; rw [hB2, hn2]; rfl
  rw [← e3] at s3
  obtain ⟨c1, c2⟩ := s3
  refine ⟨(a1.trans (b1.mono (by rintro q rfl; rfl))).trans (c1.mono (by rintro q rfl; rfl)), ?_⟩
  intro p hp hn
  match p, hp, hn with
  | [], hp, _ => exact absurd rfl hp
  | [a], _, hn =>
    have ha : a = 6 ∨ a = 7 := by simp [okp] at hn; exact hn
    rcases ha with rfl | rfl
    · exact c1.bsy hi rfl (by rintro c _ h; simp at h) b2
    · exact c2
  | [k, s], _, hn =>
    have hk : k < 64 ∧ s = 7 := by simp [okp] at hn; exact hn
    obtain ⟨hk, rfl⟩ := hk
    have hok : okp [k, 7] = true := by simp [okp]; omega
    exact c1.bsy hi hok (by rintro c _ h; simp at h) (b1.bsy hi hok (by rintro c _ h; simp at h) (a2 k hk))
  | a :: b :: c :: r, _, hn => simp [okp] at hn
set_option maxRecDepth 100000 in
theorem at_z (n : Ino) (v : Int) (p : Nat) : ({ n with z := v } : Ino).at p = n.at p := by
  match p with
  | 0 => rfl
  | 1 => rfl
  | 2 => rfl
  | 3 => rfl
  | 4 => rfl
  | 5 => rfl
  | 6 => rfl
  | _ + 7 => rfl
set_option maxRecDepth 100000 in
theorem ab_z (G : Geo) (B : List ByteArray) (N : Nat → Ino) (i : Nat) (n : Ino) (v : Int) : ab G B (upd N i { n with z := v }) = ab G B (upd N i n) := by
  unfold ab
  simp only [NS.mk.injEq, and_true]
  funext j p
  by_cases e : j = i
  · subst e; rw [upd_at, upd_at, at_z]
  · rw [upd_ne _ _ e, upd_ne _ _ e]
/-- the inodes of blocks -/
def nd (G : Geo) (B : List ByteArray) : Nat → Ino := fun j => nodeI G B (j : Int)
set_option maxRecDepth 100000 in
theorem tab_rng {G : Geo} (hG : G.Ok) {j : Nat} (hj : j < G.z) : G.t + j / 4 < G.da ∧ G.t + j / 4 ≠ G.bm := by
  have := hG.tz; have := hG.bt; omega
set_option maxRecDepth 100000 in
theorem nd_low {G : Geo} (hG : G.Ok) {B B' : List ByteArray} (h : ∀ c, c < G.da → c ≠ G.bm → bk B' c = bk B c) (j : Nat) : nodeI G B' (j : Int) = nodeI G B (j : Int) ∧ nodeE G B' (j : Int) = nodeE G B (j : Int) := by
  unfold nodeI nodeE
  by_cases e : 0 ≤ (j : Int) ∧ (j : Int) < G.z
  · have hj : j < G.z := by omega
    obtain ⟨h1, h2⟩ := tab_rng hG hj
    rw [if_pos e, if_pos e, if_pos e, if_pos e, Int.toNat_natCast, h _ h1 h2]
    exact ⟨rfl, rfl⟩
  · rw [if_neg e, if_neg e, if_neg e, if_neg e]
    exact ⟨rfl, rfl⟩
set_option maxRecDepth 100000 in
theorem put_get {b : ByteArray} (hb : b.size = 128) {k m : Nat} (hk : k < 4) (hm : m < 4) {n : Ino} (hn : chkE n = 0) : getI (putV b (k : Int) n) (m : Int) = (if m = k then n else getI b (m : Int)) ∧ getE (putV b (k : Int) n) (m : Int) = if m = k then 0 else getE b (m : Int) := by
  have hs : (putV b (k : Int) n).size = 128 := putV_size b k n hb hk hn
  have p1 : parE (putV b (k : Int) n) (m : Int) 4 = 0 := by unfold parE; rw [if_pos hs, if_pos]; omega
  have p2 : parE b (m : Int) 4 = 0 := by unfold parE; rw [if_pos hb, if_pos]; omega
  have p3 : parE b (k : Int) 4 = 0 := by unfold parE; rw [if_pos hb, if_pos]; omega
  have p4 : putE b (k : Int) n = 0 := by unfold putE; rw [if_pos p3]; exact hn
  unfold getI getE
  rw [if_pos p1, if_pos p2, if_pos p1, if_pos p2]
  simp only [Int.toNat_natCast]
  have e : ((putV b (k : Int) n).extract (32 * m) (32 * m + 32)).data.toList = if m = k then encL n else (b.extract (32 * m) (32 * m + 32)).data.toList := by
    unfold putV
    rw [if_pos p4, Int.toNat_natCast]
    exact put_part b k m n hb hk hm
  rw [e]
  by_cases c : m = k
  · rw [if_pos c, if_pos c, if_pos c]
    exact dec_yes (chk_right hn)
  · rw [if_neg c, if_neg c, if_neg c]
    exact ⟨rfl, rfl⟩
set_option maxRecDepth 100000 in
theorem put_nd {G : Geo} (hG : G.Ok) {B : List ByteArray} (hl : B.length = G.n) (hs : ∀ s ∈ B, s.size = 128) {i : Nat} (hi : i < G.z) {n : Ino} (hn : chkE n = 0) : nd G (putB G B i n) = upd (nd G B) i n ∧ ∀ j : Nat, nodeE G (putB G B i n) (j : Int) = if j = i then 0 else nodeE G B (j : Int) := by
  obtain ⟨h1, h2⟩ := tab_rng hG hi
  have hlt : G.t + i / 4 < B.length := by have := hG.dan; omega
  have key : ∀ j : Nat, nodeI G (putB G B i n) (j : Int) = (if j = i then n else nodeI G B (j : Int)) ∧ nodeE G (putB G B i n) (j : Int) = if j = i then 0 else nodeE G B (j : Int) := by
    intro j
    unfold nodeI nodeE
    by_cases e : 0 ≤ (j : Int) ∧ (j : Int) < G.z
    · rw [if_pos e, if_pos e, if_pos e, if_pos e, Int.toNat_natCast]
      unfold putB
      rw [bk_set _ hlt]
      by_cases c : G.t + i / 4 = G.t + j / 4
      · rw [if_pos c]
        have hbs := hs _ (bk_mem hlt)
        obtain ⟨a1, a2⟩ := put_get (m := j % 4) hbs (Nat.mod_lt i (by decide)) (Nat.mod_lt j (by decide)) hn
        rw [a1, a2, c]
        by_cases d : j = i
        · rw [if_pos (by rw [d]), if_pos d, if_pos (by rw [d]), if_pos d]
          exact ⟨rfl, rfl⟩
        · rw [if_neg (by omega), if_neg d, if_neg (by omega), if_neg d]
          exact ⟨rfl, rfl⟩
      · rw [if_neg c, if_neg (by rintro rfl; exact c rfl), if_neg (by rintro rfl; exact c rfl)]
        exact ⟨rfl, rfl⟩
    · rw [if_neg e, if_neg e, if_neg e, if_neg e, if_neg (by omega), if_neg (by omega)]
      exact ⟨rfl, rfl⟩
  refine ⟨?_, fun j => (key j).2⟩
  funext j
  exact (key j).1
set_option maxRecDepth 100000 in
theorem put_ab {G : Geo} (hG : G.Ok) {B : List ByteArray} (hl : B.length = G.n) {i : Nat} (hi : i < G.z) (n : Ino) (N : Nat → Ino) : ab G (putB G B i n) N = ab G B N := by
  obtain ⟨h1, h2⟩ := tab_rng hG hi
  have hlt : G.t + i / 4 < B.length := by have := hG.dan; omega
  unfold ab
  simp only [NS.mk.injEq, true_and]
  refine ⟨?_, ?_⟩
  · funext c q
    by_cases e : G.da ≤ c ∧ c < G.n
    · rw [if_pos e, if_pos e]
      unfold putB
      rw [bk_set _ hlt, if_neg (by omega)]
    · rw [if_neg e, if_neg e]
  · funext c
    unfold putB
    rw [bk_set _ hlt, if_neg h2]
/-- blocks in which all is right: no block is named twice, all that are named are taken, all inodes can be read -/
structure TI (G : Geo) (B : List ByteArray) : Prop where
  si : SI G B (nd G B)
  ne : ∀ j, j < G.z → nodeE G B (j : Int) = 0
set_option maxRecDepth 100000 in
theorem put_ti {G : Geo} {B B1 : List ByteArray} {i : Nat} {n : Ino} (H : TI G B) (hi : i < G.z) (hn : chkE n = 0) (h : SI G B1 (upd (nd G B) i n)) (hlow : ∀ c, c < G.da → c ≠ G.bm → bk B1 c = bk B c) : TI G (putB G B1 i n) ∧ nd G (putB G B1 i n) = upd (nd G B) i n := by
  have hG := H.si.ok
  have e1 : nd G B1 = nd G B := by funext j; exact (nd_low hG hlow j).1
  obtain ⟨k1, k2⟩ := put_nd hG h.bl h.bs hi hn
  rw [e1] at k1
  refine ⟨⟨⟨hG, ?_, ?_, ?_⟩, ?_⟩, k1⟩
  · unfold putB; simp [h.bl]
  · unfold putB
    obtain ⟨h1, _⟩ := tab_rng hG hi
    exact set_sizes h.bs (putV_size _ _ _ (h.bs _ (bk_mem (by rw [h.bl]; have := hG.dan; omega))) (Nat.mod_lt i (by decide)) hn)
  · rw [k1, put_ab hG h.bl hi]
    exact h.inv
  · intro j hj
    rw [k2]
    by_cases e : j = i
    · rw [if_pos e]
    · rw [if_neg e, (nd_low hG hlow j).2]
      exact H.ne j hj
set_option maxRecDepth 100000 in
theorem SI.z {G : Geo} {B : List ByteArray} {N : Nat → Ino} {i : Nat} {n : Ino} (v : Int) (h : SI G B (upd N i n)) : SI G B (upd N i { n with z := v }) := ⟨h.ok, h.bl, h.bs, by rw [ab_z]; exact h.inv⟩
set_option maxRecDepth 100000 in
/-- what a write that goes well does -/
theorem write_ti {G : Geo} {B : List ByteArray} (H : TI G B) {i : Nat} (hi : i < G.z) {x : Nat} {d : ByteArray} (hx : x + d.size ≤ 533248) (hu : usdE G B (i : Int) = 0) (hL : (layR G B (usdI G B (i : Int)) x d).1 = 0) :
    TI G (putB G (layR G B (usdI G B (i : Int)) x d).2.1 i (layR G B (usdI G B (i : Int)) x d).2.2) ∧ ∃ N, N = upd (nd G B) i { nd G B i with z := max (nd G B i).z ((x : Int) + d.size) } ∧ ab G B N = ab G B (nd G B) ∧
      nd G (putB G (layR G B (usdI G B (i : Int)) x d).2.1 i (layR G B (usdI G B (i : Int)) x d).2.2) = upd N i (layR G B (usdI G B (i : Int)) x d).2.2 ∧
      ab G (putB G (layR G B (usdI G B (i : Int)) x d).2.1 i (layR G B (usdI G B (i : Int)) x d).2.2) (upd N i (layR G B (usdI G B (i : Int)) x d).2.2) = ab G (layR G B (usdI G B (i : Int)) x d).2.1 (upd N i (layR G B (usdI G B (i : Int)) x d).2.2) ∧
      Laid G i x d.data.toList B N (layR G B (usdI G B (i : Int)) x d).2.1 (upd N i (layR G B (usdI G B (i : Int)) x d).2.2) := by
  have hG := H.si.ok
  obtain ⟨_, _, e1, hU⟩ := usd_ok hu
  have hlu := lay_used hG (B := B) (x := x) (d := d) hU hx
  obtain ⟨N, hN⟩ : ∃ N, N = upd (nd G B) i { nd G B i with z := max (nd G B i).z ((x : Int) + d.size) } := ⟨_, rfl⟩
  have eN : ab G B N = ab G B (nd G B) := by rw [hN, ab_z, upd_self]
  have HN : SI G B N := ⟨hG, H.si.bl, H.si.bs, by rw [eN]; exact H.si.inv⟩
  have eNi : N i = { usdI G B (i : Int) with z := max (usdI G B (i : Int)).z ((x : Int) + d.size) } := by rw [hN, upd_at, e1]; rfl
  obtain ⟨r, B1, n1, hr⟩ : ∃ r B1 n1, layR G B (usdI G B (i : Int)) x d = (r, B1, n1) := ⟨_, _, _, rfl⟩
  rw [hr] at hL hlu ⊢
  simp only at hL hlu ⊢
  subst hL
  have hls : layS G d.size B (N i) x d.data.toList = (0, B1, n1) := by rw [eNi]; exact hr
  have hld := lay_laid hi d.size HN (by rw [len_list]; exact Nat.le_refl _) (by rw [len_list]; exact hx) hls
  have eU : upd N i n1 = upd (nd G B) i n1 := by rw [hN, upd_upd]
  obtain ⟨t1, t2⟩ := put_ti H hi (usedI_chk hlu) (by rw [← eU]; exact hld.si) hld.low
  exact ⟨t1, N, hN, eN, by rw [t2, eU], put_ab hG hld.si.bl hi n1 _, hld⟩
set_option maxRecDepth 100000 in
theorem half_get {b : ByteArray} (hb : b.size = 128) {k : Nat} (hk : k ≤ 128) (m : Nat) : (half b k).data.toList.getD m 0 = if m < k then b.data.toList.getD m 0 else 0 := by
  unfold half
  rw [cat_list, ext_list, List.drop_zero]
  have hl := len_list b
  have hA : (b.data.toList.take k).length = k := by rw [List.length_take]; omega
  simp only [List.getD_eq_getElem?_getD]
  by_cases h : m < k
  · rw [if_pos h, List.getElem?_append_left (by omega), List.getElem?_take_of_lt h]
  · rw [if_neg h, List.getElem?_append_right (by omega)]
    unfold Zs
    rw [st_list, List.getElem?_replicate]
    split <;> rfl
/-- all that Cut does to the blocks -/
structure Cutd (G : Geo) (i size : Nat) (B : List ByteArray) (N : Nat → Ino) (B' : List ByteArray) (N' : Nat → Ino) : Prop where
  si : SI G B' N'
  oth : ∀ j, j ≠ i → N' j = N j
  low : ∀ c, c < G.da → c ≠ G.bm → bk B' c = bk B c
  vlq : ∀ j q, j < G.z → okp q = true → vl (ab G B' N') j q = vl (ab G B N) j q ∨ j = i ∧ vl (ab G B' N') j q = 0
  out : ∀ x, (size + 127) / 128 ≤ x → x < 4166 → vl (ab G B' N') i (pth x) = 0
  bsy : ∀ p, p ≠ [] → okp (0 :: p) = true → Bsy (ab G B' N') i p
  fby : ∀ j a, j < G.z → a < 533248 → fby G B' N' j a = if j = i ∧ size ≤ a then 0 else fby G B N j a
set_option maxRecDepth 100000 in
set_option maxHeartbeats 1000000 in
theorem cut_cutd {G : Geo} {B : List ByteArray} {N : Nat → Ino} (H : SI G B N) {i : Nat} (hi : i < G.z) {size : Nat} (hs : size ≤ 533248) : Cutd G i size B N (blB G (c2S G B (N i) size).1 (c2S G B (N i) size).2 size) (upd N i (c2S G B (N i) size).2) ∧ (c2S G B (N i) size).2.k = (N i).k ∧ (c2S G B (N i) size).2.l = (N i).l := by
  obtain ⟨a1, a2⟩ := lf_cut hi (4166 - (size + 127) / 128) (y := (size + 127) / 128) H (by omega)
  have ec : c1S G B (N i) size = lfS G (4166 - (size + 127) / 128) B (N i) ((size + 127) / 128) := rfl
  rw [← ec] at a1 a2
  obtain ⟨B1, hB1⟩ : ∃ B1, B1 = (c1S G B (N i) size).1 := ⟨_, rfl⟩
  obtain ⟨n1, hn1⟩ : ∃ n1, n1 = (c1S G B (N i) size).2 := ⟨_, rfl⟩
  rw [← hB1, ← hn1] at a1 a2
  obtain ⟨b1, b2⟩ := nr_cut a1.si hi
  rw [upd_at, upd_upd] at b1 b2
  have ed : c2S G B (N i) size = nrS G B1 n1 := by unfold c2S; rw [hB1, hn1]
  rw [← ed] at b1 b2
  obtain ⟨B2, hB2⟩ : ∃ B2, B2 = (c2S G B (N i) size).1 := ⟨_, rfl⟩
  obtain ⟨n2, hn2⟩ : ∃ n2, n2 = (c2S G B (N i) size).2 := ⟨_, rfl⟩
  rw [← hB2, ← hn2] at b1 b2 ⊢
  have hT := (a1.mono (Q := fun q => (∃ x, (size + 127) / 128 ≤ x ∧ x < (size + 127) / 128 + (4166 - (size + 127) / 128) ∧ q = pth x) ∨ nmr q) (fun q h => .inl h)).trans (b1.mono (fun q h => .inr h))
  have hout : ∀ x, (size + 127) / 128 ≤ x → x < 4166 → vl (ab G B2 (upd N i n2)) i (pth x) = 0 := by
    intro x h1 h2
    exact b1.zero hi (pth_ok h2) (a2 x h1 (by omega))
  have hhd : n2.k = (N i).k ∧ n2.l = (N i).l := by
    have := hT.hd
    rw [upd_at] at this
    exact ⟨this.1, this.2.1⟩
  have hbyt : ∀ j a, j < G.z → a < 533248 → YtokjlgebkihimaaGreat.fby G B2 (upd N i n2) j a = if j = i ∧ (size + 127) / 128 ≤ a / 128 then 0 else YtokjlgebkihimaaGreat.fby G B N j a := by
    intro j a hj ha
    have hpa : okp (pth (a / 128)) = true := pth_ok (by omega)
    unfold YtokjlgebkihimaaGreat.fby
    by_cases c : j = i ∧ (size + 127) / 128 ≤ a / 128
    · rw [if_pos c, c.1, hout _ c.2 (by omega), if_pos rfl]
    · rw [if_neg c]
      have e : vl (ab G B2 (upd N i n2)) j (pth (a / 128)) = vl (ab G B N) j (pth (a / 128)) := by
        refine (hT.vlq j _ hj hpa).resolve_right ?_
        rintro ⟨e1, e2, _⟩
        rcases e2 with ⟨x, x1, _, x3⟩ | e2
        · exact c ⟨e1, by rw [pth_inj x3]; exact x1⟩
        · unfold nmr at e2
          rw [pth_leaf] at e2
          exact absurd e2 (by simp)
      rw [e]
      by_cases e0 : vl (ab G B N) j (pth (a / 128)) = 0
      · rw [if_pos e0, if_pos e0]
      · rw [if_neg e0, if_neg e0, hT.cont j _ hj hpa (pth_leaf _) (by rw [e]; exact e0)]
  refine ⟨?_, hhd⟩
  unfold blB
  by_cases m0 : size % 128 = 0
  · rw [if_pos m0]
    refine ⟨hT.si, hT.oth, hT.low, fun j q hj hq => (hT.vlq j q hj hq).imp id (fun h => ⟨h.1, h.2.2⟩), hout, b2, ?_⟩
    intro j a hj ha
    rw [hbyt j a hj ha]
    by_cases c : j = i ∧ size ≤ a
    · rw [if_pos c, if_pos ⟨c.1, by omega⟩]
    · rw [if_neg c, if_neg (by rintro ⟨h1, h2⟩; exact c ⟨h1, by omega⟩)]
  · rw [if_neg m0]
    have hxs : size / 128 < 4166 := by omega
    have eb : blk G B2 n2 (size / 128) = vl (ab G B2 (upd N i n2)) i (pth (size / 128)) := by
      have := blk_vl H.ok (B := B2) (N := upd N i n2) (i := i) hxs
      rw [upd_at] at this
      exact this
    rw [eb]
    by_cases v0 : vl (ab G B2 (upd N i n2)) i (pth (size / 128)) = 0
    · rw [if_pos v0]
      refine ⟨hT.si, hT.oth, hT.low, fun j q hj hq => (hT.vlq j q hj hq).imp id (fun h => ⟨h.1, h.2.2⟩), hout, b2, ?_⟩
      intro j a hj ha
      rw [hbyt j a hj ha]
      by_cases c : j = i ∧ size ≤ a
      · rw [if_pos c]
        by_cases d : (size + 127) / 128 ≤ a / 128
        · rw [if_pos ⟨c.1, d⟩]
        · rw [if_neg (by rintro ⟨_, h2⟩; exact d h2)]
          have hb := hbyt j a hj ha
          rw [if_neg (by rintro ⟨_, h2⟩; exact d h2)] at hb
          rw [← hb]
          unfold YtokjlgebkihimaaGreat.fby
          rw [c.1, show a / 128 = size / 128 by omega, if_pos v0]
      · rw [if_neg c, if_neg (by rintro ⟨h1, h2⟩; exact c ⟨h1, by omega⟩)]
    · rw [if_neg v0]
      have hp := pth_ok hxs
      have hrg := inn_rng v0
      have hlt : vl (ab G B2 (upd N i n2)) i (pth (size / 128)) < B2.length := by rw [hT.si.bl]; exact hrg.2
      have hsz : (bk B2 (vl (ab G B2 (upd N i n2)) i (pth (size / 128)))).size = 128 := hT.si.bs _ (bk_mem hlt)
      obtain ⟨c1, c2⟩ := set_leaf hT.si hi hp (pth_leaf _) v0 (half_size hsz (k := size % 128) (by omega))
      refine ⟨c1, hT.oth, ?_, ?_, ?_, ?_, ?_⟩
      · intro c h1 h2
        rw [bk_set _ hlt, if_neg (by omega), hT.low c h1 h2]
      · intro j q hj hq
        rw [c2 j hj q hq]
        exact (hT.vlq j q hj hq).imp id (fun h => ⟨h.1, h.2.2⟩)
      · intro x h1 h2
        rw [c2 i hi _ (pth_ok h2)]
        exact hout x h1 h2
      · intro p hp0 hpn h
        have hpk : okp p = true := by
          match p, hp0, hpn with
          | [], hp0, _ => exact absurd rfl hp0
          | c :: r, _, hpn => exact okp_tail hpn
        rw [c2 i hi _ hpk] at h
        obtain ⟨c, d1, d2⟩ := b2 p hp0 hpn h
        exact ⟨c, d1, by rw [c2 i hi _ d1]; exact d2⟩
      · intro j a hj ha
        have hpa : okp (pth (a / 128)) = true := pth_ok (by omega)
        have hb := hbyt j a hj ha
        have e : YtokjlgebkihimaaGreat.fby G (B2.set (vl (ab G B2 (upd N i n2)) i (pth (size / 128))) (half (bk B2 (vl (ab G B2 (upd N i n2)) i (pth (size / 128)))) (size % 128))) (upd N i n2) j a = if j = i ∧ a / 128 = size / 128 ∧ size ≤ a then 0 else YtokjlgebkihimaaGreat.fby G B2 (upd N i n2) j a := by
          unfold YtokjlgebkihimaaGreat.fby
          rw [c2 j hj _ hpa]
          by_cases e0 : vl (ab G B2 (upd N i n2)) j (pth (a / 128)) = 0
          · rw [if_pos e0, if_pos e0]
            split <;> rfl
          · rw [if_neg e0, if_neg e0, bk_set _ hlt]
            by_cases d : j = i ∧ a / 128 = size / 128
            · rw [d.1, d.2, if_pos rfl, half_get hsz (by omega)]
              by_cases k : size ≤ a
              · rw [if_neg (by omega), if_pos ⟨rfl, rfl, k⟩]
              · rw [if_pos (by omega), if_neg (by rintro ⟨_, _, h⟩; exact k h)]
            · rw [if_neg, if_neg (by rintro ⟨h1, h2, _⟩; exact d ⟨h1, h2⟩)]
              intro e2
              obtain ⟨k1, k2⟩ := hT.si.inv.inj i j _ _ hi hj hp hpa e2 v0
              exact d ⟨k1.symm, (pth_inj k2).symm⟩
        rw [e, hb]
        by_cases c : j = i ∧ size ≤ a
        · rw [if_pos c]
          by_cases d : a / 128 = size / 128
          · rw [if_pos ⟨c.1, d, c.2⟩]
          · rw [if_neg (by rintro ⟨_, h, _⟩; exact d h), if_pos ⟨c.1, by omega⟩]
        · rw [if_neg c, if_neg (by rintro ⟨h1, _, h2⟩; exact c ⟨h1, h2⟩), if_neg (by rintro ⟨h1, h2⟩; exact c ⟨h1, by omega⟩)]
set_option maxRecDepth 100000 in
/-- what a cut that goes well does -/
theorem cut_ti {G : Geo} {B : List ByteArray} (H : TI G B) {i : Nat} (hi : i < G.z) {size : Nat} (hs : size ≤ 533248) (hu : usdE G B (i : Int) = 0) :
    TI G (cutB G B i (usdI G B (i : Int)) size) ∧ ∃ B1 n1, Cutd G i size B (nd G B) B1 (upd (nd G B) i n1) ∧ n1.k = (nd G B i).k ∧ n1.l = (nd G B i).l ∧ nd G (cutB G B i (usdI G B (i : Int)) size) = upd (nd G B) i { n1 with z := (size : Int) } ∧
      ab G (cutB G B i (usdI G B (i : Int)) size) (nd G (cutB G B i (usdI G B (i : Int)) size)) = ab G B1 (upd (nd G B) i n1) ∧ cutB G B i (usdI G B (i : Int)) size = putB G B1 i { n1 with z := (size : Int) } := by
  have hG := H.si.ok
  obtain ⟨_, _, e1, hU⟩ := usd_ok hu
  have hU2 := usedI_c2 (G := G) (B := B) (size := size) hU
  have hU3 := usedI_size hU2 (z := (size : Int)) (by omega) (by omega)
  have e2 : usdI G B (i : Int) = nd G B i := e1
  obtain ⟨k1, k2⟩ := cut_cutd H.si hi hs
  rw [← e2] at k1 k2
  unfold cutB
  obtain ⟨n1, hn1⟩ : ∃ n1, n1 = (c2S G B (usdI G B (i : Int)) size).2 := ⟨_, rfl⟩
  obtain ⟨B1, hB1⟩ : ∃ B1, B1 = blB G (c2S G B (usdI G B (i : Int)) size).1 (c2S G B (usdI G B (i : Int)) size).2 size := ⟨_, rfl⟩
  rw [← hB1] at k1 ⊢
  rw [← hn1] at k1 k2 hU3 ⊢
  obtain ⟨t1, t2⟩ := put_ti H hi (usedI_chk hU3) (k1.si.z (size : Int)) k1.low
  refine ⟨t1, B1, n1, k1, by rw [← e2]; exact k2.1, by rw [← e2]; exact k2.2, t2, ?_, rfl⟩
  rw [t2, put_ab hG k1.si.bl hi, ab_z]
end Go.Proofs.YtokjlgebkihimaaGreat
namespace Go.Proofs.YtokjlgebkihimaaGreat
open Go.RowKit Go.Maps Go.Shelf

set_option maxRecDepth 100000 in
theorem vl_none {S : NS} (h : ∀ i p, S.rt i p = 0) (i : Nat) : ∀ p, vl S i p = 0
  | [] => rfl
  | [p] => h i p
  | a :: b :: r => child0 (vl_none h i (b :: r)) a
set_option maxRecDepth 100000 in
theorem inv_none {z da n : Nat} {S : NS} (h : ∀ i p, S.rt i p = 0) (ht : ∀ b, da ≤ b → b < n → S.tk b = false) : Inv z da n S := by
  refine ⟨?_, ?_, ?_, ?_⟩
  · intro i j p q _ _ _ _ _ h0
    exact absurd (vl_none h i p) h0
  · intro i p _ _ h0
    exact absurd (vl_none h i p) h0
  · intro i p _ _ h0
    exact absurd (vl_none h i p) h0
  · intro b h1 h2 h3
    rw [ht b h1 h2] at h3
    exact absurd h3 (by simp)
/-- blocks of which none is taken, and inodes that name none -/
structure Emp (G : Geo) (B : List ByteArray) : Prop where
  ti : TI G B
  at0 : ∀ j p, (nd G B j).at p = 0
  tk0 : ∀ b, G.da ≤ b → b < G.n → tk (bk B G.bm).data.toList b = false
set_option maxRecDepth 100000 in
theorem Emp.put {G : Geo} {B : List ByteArray} (h : Emp G B) {i : Nat} (hi : i < G.z) {n : Ino} (hn : chkE n = 0) (hz : ∀ p, n.at p = 0) : Emp G (putB G B i n) ∧ nd G (putB G B i n) = upd (nd G B) i n := by
  have hG := h.ti.si.ok
  have hat : ∀ j p, (upd (nd G B) i n j).at p = 0 := by
    intro j p
    by_cases e : j = i
    · rw [e, upd_at]; exact hz p
    · rw [upd_ne _ _ e]; exact h.at0 j p
  have hS : SI G B (upd (nd G B) i n) := by
    refine ⟨hG, h.ti.si.bl, h.ti.si.bs, inv_none ?_ h.tk0⟩
    intro j p
    show (if p < 8 then (datN G ((upd (nd G B) i n j).at p)).toNat else 0) = 0
    rw [hat j p, datN_zero hG]
    split <;> rfl
  obtain ⟨t1, t2⟩ := put_ti h.ti hi hn hS (fun _ _ _ => rfl)
  refine ⟨⟨t1, by rw [t2]; exact hat, ?_⟩, t2⟩
  intro b h1 h2
  obtain ⟨_, h4⟩ := tab_rng hG hi
  unfold putB
  rw [bk_set _ (by rw [h.ti.si.bl]; have := (tab_rng hG hi).1; have := hG.dan; omega), if_neg h4]
  exact h.tk0 b h1 h2
set_option maxRecDepth 1000000 in
theorem s_nd : ∀ j : Fin 8, nodeI sG sF ((j.val : Nat) : Int) = Ino.zero ∧ nodeE sG sF ((j.val : Nat) : Int) = 0 := by decide +kernel
set_option maxRecDepth 1000000 in
theorem s_tk : ∀ b : Fin 40, tk (bk sF sG.bm).data.toList b.val = false := by decide +kernel
set_option maxRecDepth 100000 in
theorem s_ok : sG.Ok := by rw [← s_geo]; exact geo_ok s_okS
set_option maxRecDepth 100000 in
theorem zero_at (p : Nat) : Ino.zero.at p = 0 := by
  match p with
  | 0 => rfl
  | 1 => rfl
  | 2 => rfl
  | 3 => rfl
  | 4 => rfl
  | 5 => rfl
  | 6 => rfl
  | _ + 7 => rfl
set_option maxRecDepth 100000 in
theorem sN_at (p : Nat) : sN.at p = 0 := by
  match p with
  | 0 => rfl
  | 1 => rfl
  | 2 => rfl
  | 3 => rfl
  | 4 => rfl
  | 5 => rfl
  | 6 => rfl
  | _ + 7 => rfl
set_option maxRecDepth 100000 in
theorem s_nz (j : Nat) : nd sG sF j = Ino.zero := by
  by_cases h : j < 8
  · exact (s_nd ⟨j, h⟩).1
  · unfold nd nodeI
    rw [if_neg]
    show ¬ (0 ≤ (j : Int) ∧ (j : Int) < ((8 : Nat) : Int))
    omega
set_option maxRecDepth 100000 in
theorem s_emp : Emp sG sF := by
  have h0 : ∀ j p, (nd sG sF j).at p = 0 := fun j p => by rw [s_nz]; exact zero_at p
  have ht : ∀ b, sG.da ≤ b → b < sG.n → tk (bk sF sG.bm).data.toList b = false := fun b _ h => s_tk ⟨b, h⟩
  refine ⟨⟨⟨s_ok, s_len, s_sz, inv_none ?_ ht⟩, ?_⟩, h0, ht⟩
  · intro j p
    show (if p < 8 then (datN sG ((nd sG sF j).at p)).toNat else 0) = 0
    rw [h0 j p, datN_zero s_ok]
    split <;> rfl
  · intro j hj
    exact (s_nd ⟨j, hj⟩).2
/-- what a write may come to -/
def WrR (G : Geo) (B : List ByteArray) (i x : Int) (d : ByteArray) (r : Int) (B' : List ByteArray) : Prop :=
  (B' = B ∧ (r ≠ 0 ∨ d.size = 0)) ∨ (r = 0 ∧ ∃ j y : Nat, i = (j : Int) ∧ x = (y : Int) ∧ j < G.z ∧ y + d.size ≤ 533248 ∧ d.size ≠ 0 ∧ usdE G B (j : Int) = 0 ∧ (layR G B (usdI G B (j : Int)) y d).1 = 0 ∧ B' = putB G (layR G B (usdI G B (j : Int)) y d).2.1 j (layR G B (usdI G B (j : Int)) y d).2.2)
/-- what a cut may come to -/
def CtR (G : Geo) (B : List ByteArray) (i x : Int) (r : Int) (B' : List ByteArray) : Prop :=
  (B' = B ∧ r ≠ 0) ∨ (r = 0 ∧ ∃ j y : Nat, i = (j : Int) ∧ x = (y : Int) ∧ j < G.z ∧ y ≤ 533248 ∧ usdE G B (j : Int) = 0 ∧ B' = cutB G B j (usdI G B (j : Int)) y)
set_option maxRecDepth 100000 in
theorem WrR.ti {G : Geo} {B B' : List ByteArray} {i x : Int} {d : ByteArray} {r : Int} (h : WrR G B i x d r B') (H : TI G B) : TI G B' := by
  rcases h with ⟨rfl, _⟩ | ⟨_, j, y, rfl, rfl, hj, hy, _, hu, hL, rfl⟩
  · exact H
  · exact (write_ti H hj hy hu hL).1
set_option maxRecDepth 100000 in
theorem CtR.ti {G : Geo} {B B' : List ByteArray} {i x : Int} {r : Int} (h : CtR G B i x r B') (H : TI G B) : TI G B' := by
  rcases h with ⟨rfl, _⟩ | ⟨_, j, y, rfl, rfl, hj, hy, hu, rfl⟩
  · exact H
  · exact (cut_ti H hj hy hu).1
set_option maxRecDepth 100000 in
theorem SV.only {w w1 w2 : World} {p q cap m m' : Nat} {B B' : List ByteArray} (h : SV w p B w1) (_hv : VI sG p q cap m w1 sF B) (hq : w.heap.size ≤ q) (hm : w.heap.size ≤ m) (hv' : VI sG p q cap m' w2 sF B') (hm' : m' = m ∨ w1.heap.size ≤ m') (ho : Only [p, m] w1 w2) : SV w p B' w2 := by
  have hs := h.bel.size
  refine ⟨⟨q, cap, m', hv', hq, by omega⟩, h.le, h.bel.trans (ho.below hs ?_)⟩
  intro x hx
  simp at hx
  rcases hx with rfl | rfl
  · exact h.le
  · exact hm
set_option maxRecDepth 100000 in
theorem sv_set3 {w w1 : World} {p : Nat} {B : List ByteArray} (i : Nat) (hi : i < 8) (h : SV w p B w1) : Calls Tryz.prog 27 #[.pointer (some ⟨p, 0, none⟩), .int .i64 (i : Int), sN.v] w1 fun e w' => e = .returned (.int .i64 0) ∧ SV w p (putB sG B i sN) w' := by
  obtain ⟨q, cap, m, hv, hq, hm⟩ := h.ex
  exact (vset_ok (w := w1) i (show i < sG.z from hi) sN s_c hv).mono fun e w' ⟨he, hv', ho⟩ => ⟨he, h.only hv hq hm hv' (.inl rfl) (ho.wide (by simp))⟩
set_option maxRecDepth 100000 in
theorem sv_wr {w w1 : World} {p : Nat} {B : List ByteArray} (i x : Int) (d : ByteArray) (h : SV w p B w1) : Calls Tryz.prog 71 #[.pointer (some ⟨p, 0, none⟩), .int .i64 i, .int .i64 x, .string d] w1 fun e w' => ∃ r B', e = .returned (.int .i64 r) ∧ WrR sG B i x d r B' ∧ SV w p B' w' := by
  obtain ⟨q, cap, m, hv, hq, hm⟩ := h.ex
  have nop : ∀ r, (r ≠ 0 ∨ d.size = 0) → (Calls Tryz.prog 71 #[.pointer (some ⟨p, 0, none⟩), .int .i64 i, .int .i64 x, .string d] w1 fun e w' => e = .returned (.int .i64 r) ∧ Below w1.heap.size w1 w') → Calls Tryz.prog 71 #[.pointer (some ⟨p, 0, none⟩), .int .i64 i, .int .i64 x, .string d] w1 fun e w' => ∃ r B', e = .returned (.int .i64 r) ∧ WrR sG B i x d r B' ∧ SV w p B' w' :=
    fun r hr k => k.mono fun e w' ⟨he, hb⟩ => ⟨r, B, he, .inl ⟨rfl, hr⟩, h.next hb⟩
  by_cases hx : x < 0
  · exact nop _ (.inl (by decide)) (write_neg i x d hx hv)
  · by_cases hd : 1024 < d.size
    · exact nop _ (.inl (by decide)) (write_long i x d hx hd hv)
    · by_cases hu : usdE sG B i = 0
      · by_cases hd0 : d.size = 0
        · exact nop _ (.inr hd0) (write_empty i x d hx hd0 hu hv)
        · by_cases hb : 533248 - (d.size : Int) < x
          · exact nop _ (.inl (by decide)) (write_big i x d hx (by omega) hd0 hu hb hv)
          · obtain ⟨⟨hi0, hi1⟩, _⟩ := usd_ok hu
            obtain ⟨j, rfl⟩ : ∃ j : Nat, i = j := ⟨i.toNat, by omega⟩
            obtain ⟨y, rfl⟩ : ∃ y : Nat, x = y := ⟨x.toNat, by omega⟩
            rcases layS_01 sG d.size B { usdI sG B (j : Int) with z := max (usdI sG B (j : Int)).z ((y : Int) + d.size) } y d.data.toList with h0 | h1
            · exact (write_ok j y d (by omega) hd0 (by omega) hu h0 hv).mono fun e w' ⟨he, hv', ho⟩ => ⟨0, _, he, .inr ⟨rfl, j, y, rfl, rfl, by omega, by omega, hd0, hu, h0, rfl⟩, h.only hv hq hm hv' (.inl rfl) (ho.wide (by simp))⟩
            · exact (write_fail j y d (by omega) hd0 (by omega) hu h1 hv).mono fun e w' ⟨he, m', hv', ho, hm'⟩ => ⟨306, B, he, .inl ⟨rfl, .inl (by decide)⟩, h.only hv hq hm hv' hm' ho⟩
      · exact nop _ (.inl hu) (write_used i x d hx (by omega) hu hv)
set_option maxRecDepth 100000 in
theorem nodup_cnt (l : List UInt8) (a : Nat) : ∀ (n : Nat) (L : List Nat), L.Nodup → (∀ b ∈ L, a ≤ b ∧ b < a + n ∧ tk l b = true) → L.length ≤ cnt l a n
  | 0, L, _, h => by
    cases L with
    | nil => exact Nat.le_refl _
    | cons b L => have := h b (by simp); omega
  | n + 1, L, hn, h => by
    have he : (L.erase (a + n)).length ≤ cnt l a n := by
      refine nodup_cnt l a n (L.erase (a + n)) (hn.erase _) ?_
      intro b hb
      rw [hn.mem_erase_iff] at hb
      have := h b hb.2
      exact ⟨this.1, by omega, this.2.2⟩
    show L.length ≤ cnt l a n + if tk l (a + n) then 1 else 0
    by_cases hm : a + n ∈ L
    · rw [List.length_erase_of_mem hm] at he
      rw [if_pos (h _ hm).2.2]
      omega
    · rw [List.erase_of_not_mem hm] at he
      omega
set_option maxRecDepth 100000 in
theorem sv_new2 {w w1 : World} {v : Value} (hb : Below w.heap.size w w1) (hs : SRow w.heap.size w1 v sF) : ∃ ao cp, v = .slice ao 40 cp ∧ ∀ w2, Below w1.heap.size w1 w2 → Calls Tryz.prog 7 #[.agg #[.int .i64 40, .int .i64 20, .int .i64 8], v] w2 fun e w' => ∃ p, e = .returned (.tuple #[.pointer (some ⟨p, 0, none⟩), .int .i64 0]) ∧ SV w p sF w' ∧ Below w2.heap.size w2 w' := by
  have h40 : sF.length = 40 := s_len
  unfold SRow at hs
  rw [h40] at hs
  obtain ⟨g, cp, rfl, hg, hc⟩ := own_row hs (by decide)
  refine ⟨some ⟨g, 0, none⟩, cp, rfl, fun w2 hb2 => ?_⟩
  have hrow : ∀ j (hj : j < sF.length), w1.cell? ⟨g, 0 + j, none⟩ = some (.string sF[j]) := fun j hj => by
    rw [Nat.zero_add, hc j (by simpa using hj)]
    simp
  have hlt : g < w1.heap.size := row_lt (F := sF) (by rw [h40]; decide) (fun i hi => by have := hrow i hi; rwa [Nat.zero_add] at this)
  have hrow2 : ∀ j (hj : j < sF.length), w2.cell? ⟨g, 0 + j, none⟩ = some (.string sF[j]) := fun j hj => (cell_same (hb2.block g hlt) _).trans (hrow j hj)
  refine (new_ok (x := 40) (y := 20) (z := 8) s_okS g 0 cp sF h40 s_sz w2 hrow2 (Nat.lt_of_lt_of_le hlt hb2.size)).mono ?_
  rintro e w' ⟨p, rfl, hnv⟩
  obtain ⟨⟨q, cap, m, hvi, hq, hm⟩, hp, hbn⟩ := hnv
  rw [s_geo] at hvi
  have hsz := hb.size
  have hsz2 := hb2.size
  exact ⟨p, rfl, ⟨⟨q, cap, m, hvi, by omega, by omega⟩, by omega, (hb.next hb2).next hbn⟩, hbn⟩
end Go.Proofs.YtokjlgebkihimaaGreat
