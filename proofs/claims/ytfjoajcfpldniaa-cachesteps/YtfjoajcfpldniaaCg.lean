import Derived.Test.YtfjoajcfpldniaaCf
namespace Go.Proofs.Ytfjoajcfpldniaa
open Go.RowKit Go.Maps

def isB (k : Int) (d : ByteArray) : Bool := decide (0 ≤ k ∧ k < 1024 ∧ d.size = 128)
theorem isBlock_any (k : Int) (d : ByteArray) (w : World) : Calls Try.prog 36 #[.int .i64 k, .string d] w fun e w' => e = .returned (.bool (isB k d)) ∧ w' = w := by
  unfold isB
  by_cases h1 : 0 ≤ k
  · by_cases h2 : k < 1024
    · by_cases h3 : d.size = 128
      · rw [decide_eq_true ⟨h1, h2, h3⟩]
        go_enter Try.func36, Try.ntmps36
        go_wp2
        go_ret
        exact ⟨by simp, rfl⟩
      · rw [decide_eq_false (fun h => h3 h.2.2)]
        have h4 : ((d.size : Int) == 128) = false := by simp; omega
        go_enter Try.func36, Try.ntmps36
        go_wp2
        go_ret
        exact ⟨by simp, rfl⟩
    · rw [decide_eq_false (fun h => h2 h.2.1)]
      go_enter Try.func36, Try.ntmps36
      go_wp2
      go_ret
      exact ⟨by simp, rfl⟩
  · rw [decide_eq_false (fun h => h1 h.1)]
    go_enter Try.func36, Try.ntmps36
    go_wp2
    go_ret
    exact ⟨by simp, rfl⟩
/-- the frame that holds a block -/
def findF (L : List Fr) (k : Int) : Option Fr := L.find? (fun x => x.b == k)
theorem find_ent (k : Int) : ∀ L : List Fr, findE (L.map ent) k = (findF L k).map (·.a)
  | [] => rfl
  | f :: L => by
    have ih := find_ent k L
    unfold findE findF at *
    rw [List.map_cons, List.find?_cons, List.find?_cons]
    show (match f.b == k with | true => some (ent f) | false => _).map _ = (match f.b == k with | true => some f | false => _).map _
    cases f.b == k
    · exact ih
    · rfl
theorem findF_some {L : List Fr} {k : Int} {f : Fr} (h : findF L k = some f) : f ∈ L ∧ f.b = k := by
  unfold findF at h
  exact ⟨List.mem_of_find?_eq_some h, by simpa using List.find?_some h⟩
theorem findF_none {L : List Fr} {k : Int} (h : findF L k = none) : ∀ f ∈ L, f.b ≠ k := by
  unfold findF at h
  rw [List.find?_eq_none] at h
  intro f hf e
  exact h f hf (by simp [e])
theorem find_go {B g m N J U : Nat} {L : List Fr} (k : Int) (hk : inI k) (w : World) (h : CS B g m w N J L U) :
    Calls Try.prog 37 #[.pointer (some ⟨g, 0, none⟩), .int .i64 k] w fun e w' => e = .returned (ptrO ((findF L k).map (·.a))) ∧ w' = w := by
  obtain ⟨c0, c1, c2⟩ := h.cells
  have hgl := h.glt
  have hlk := h.mp.look k hk
  rw [find_ent] at hlk
  go_enter Try.func37, Try.ntmps37
  go_wp2
  go_ret
  exact ⟨rfl, rfl⟩
theorem find_nil (k : Int) (w : World) : Calls Try.prog 37 #[.pointer none, .int .i64 k] w fun e w' => e = .returned (.pointer none) ∧ w' = w := by
  go_enter Try.func37, Try.ntmps37
  go_wp2
  go_ret
  exact ⟨rfl, rfl⟩
theorem touch_any (g : Nat) (x y : Value) (U : Nat) (hU : U ≤ 90000) (f : Fr) (w : World) (hg : w.heap[g]? = some (.cells #[x, y, .int .i64 (U : Int)] 57 (0, 0))) (hf : FIs w f) (hne : f.a ≠ g) :
    Calls Try.prog 39 #[.pointer (some ⟨g, 0, none⟩), .pointer (some ⟨f.a, 0, none⟩)] w fun e w' => e = .returned (.tuple #[]) ∧ w' = (w.setCell ⟨g, 2, none⟩ (.int .i64 ((U + 1 : Nat) : Int))).setCell ⟨f.a, 2, none⟩ (.int .i64 ((U + 1 : Nat) : Int)) := by
  have c2 : w.cell? ⟨g, 2, none⟩ = some (.int .i64 (U : Int)) := by simp [World.cell?, hg]
  obtain ⟨_, _, f2, _, _⟩ := hf.cells
  have hgl := lt_of_block hg
  have hfl := hf.lt
  have fz := frees hg 2
  have ff := hf.free 2
  go_enter Try.func39, Try.ntmps39
  go_wp2
  go_end0
  exact ⟨rfl, by rw [show ((U + 1 : Nat) : Int) = (U : Int) + 1 by omega]⟩
/-- the blocks of memory that a cache has -/
def fpC (g m : Nat) (L : List Fr) : List Nat := g :: m :: L.map (·.a)
theorem CS.apart {B g m N J U : Nat} {L : List Fr} {w : World} (h : CS B g m w N J L U) {x : Nat} {cs : Array Value} {t : TypeId} (hx : w.heap[x]? = some (.cells cs t (0, 0))) (h1 : t ≠ 57) (h2 : t ≠ 73) : x ∉ fpC g m L := by
  intro hm
  unfold fpC at hm
  rcases List.mem_cons.1 hm with rfl | hm
  · rw [h.c] at hx
    simp at hx
    exact h1 hx.2.symm
  · rcases List.mem_cons.1 hm with rfl | hm
    · obtain ⟨es, cl, k⟩ := h.mp.isMap
      rw [k] at hx
      cases hx
    · obtain ⟨f, hf, rfl⟩ := List.mem_map.1 hm
      have := h.fr f hf
      unfold FIs at this
      rw [this] at hx
      simp at hx
      exact h2 hx.2.symm
theorem CS.fp {B g m N J U : Nat} {L : List Fr} {w : World} (h : CS B g m w N J L U) : ∀ x ∈ fpC g m L, B ≤ x := by
  intro x hm
  unfold fpC at hm
  rcases List.mem_cons.1 hm with rfl | hm
  · exact h.b1
  · rcases List.mem_cons.1 hm with rfl | hm
    · exact h.b2
    · obtain ⟨f, hf, rfl⟩ := List.mem_map.1 hm
      exact h.b3 f hf
theorem CS.belowB {B g m N J U : Nat} {L : List Fr} {w w' : World} (h : CS B g m w N J L U) (k : Only (fpC g m L) w w') : Below B w w' :=
  k.below (Nat.le_trans h.b1 (Nat.le_of_lt h.glt)) h.fp
/-- without a block -/
def dropL (L : List Fr) (k : Int) : List Fr := L.filter (fun x => x.b != k)
/-- with a frame as it is now -/
def setL (L : List Fr) (f' : Fr) : List Fr := L.map (fun x => if x.b == f'.b then f' else x)
theorem mem_drop {L : List Fr} {k : Int} {x : Fr} : x ∈ dropL L k ↔ x ∈ L ∧ x.b ≠ k := by
  unfold dropL
  rw [List.mem_filter]
  simp
theorem drop_perm : ∀ {L : List Fr} {f : Fr}, (L.map (·.b)).Nodup → f ∈ L → (dropL L f.b ++ [f]).Perm L
  | [], f, _, h => by cases h
  | y :: L, f, hn, h => by
    rw [List.map_cons, List.nodup_cons] at hn
    unfold dropL
    by_cases e : y.b = f.b
    · have hyf : f = y := by
        rcases List.mem_cons.1 h with h | h
        · exact h
        · exact absurd (by rw [e]; exact List.mem_map_of_mem h) hn.1
      subst hyf
      have hno : L.filter (fun x => x.b != f.b) = L := by
        rw [List.filter_eq_self]
        intro x hx
        have : x.b ≠ f.b := fun e' => hn.1 (by rw [← e']; exact List.mem_map_of_mem hx)
        simpa using this
      rw [List.filter_cons_of_neg (by simp), hno]
      exact List.perm_append_comm.trans (List.Perm.refl _)
    · have hf : f ∈ L := by
        rcases List.mem_cons.1 h with h | h
        · exact absurd (by rw [h]) e
        · exact h
      rw [List.filter_cons_of_pos (by simp [e])]
      exact (drop_perm hn.2 hf).cons y
theorem setL_ent {L : List Fr} {f f' : Fr} (hn : (L.map (·.b)).Nodup) (hf : f ∈ L) (ha : f'.a = f.a) (hb : f'.b = f.b) : (setL L f').map ent = L.map ent := by
  unfold setL
  rw [List.map_map]
  apply List.map_congr_left
  intro x hx
  show ent (if x.b == f'.b then f' else x) = ent x
  by_cases e : x.b = f'.b
  · rw [if_pos (by simp [e])]
    have : x = f := by
      have key : ∀ {L : List Fr}, (L.map (·.b)).Nodup → ∀ {x y : Fr}, x ∈ L → y ∈ L → x.b = y.b → x = y := by
        intro L
        induction L with
        | nil => intro _ x y hx; cases hx
        | cons z L ih =>
          intro hn x y hx hy e
          rw [List.map_cons, List.nodup_cons] at hn
          rcases List.mem_cons.1 hx with e1 | hx1
          · rcases List.mem_cons.1 hy with e2 | hy1
            · rw [e1, e2]
            · exact absurd (by rw [← e1, e]; exact List.mem_map_of_mem hy1) hn.1
          · rcases List.mem_cons.1 hy with e2 | hy1
            · exact absurd (by rw [← e2, ← e]; exact List.mem_map_of_mem hx1) hn.1
            · exact ih hn.2 hx1 hy1 e
      exact key hn hx hf (by rw [e, hb])
    subst this
    unfold ent
    rw [ha, hb]
  · rw [if_neg (by simp [e])]
/-- a frame changed in its place -/
theorem CS.put {B g m N J U : Nat} {L : List Fr} {w w' : World} (h : CS B g m w N J L U) {f f' : Fr} (hf : f ∈ L) (ha : f'.a = f.a) (hb : f'.b = f.b) (hu : f'.u = f.u) (hd : f'.d.size = 128) (hp : 0 ≤ f'.p ∧ f'.p ≤ J) (hF : FIs w' f') (ho : Only [f.a] w w') : CS B g m w' N J (setL L f') U := by
  have hkey : ∀ x ∈ L, x.b = f'.b → x = f := by
    intro x hx e
    have hn := h.mp.nd
    have := nd_b hn (x := ent x) (y := ent f) (List.mem_map_of_mem hx) (List.mem_map_of_mem hf) (by show x.b = f.b; rw [e, hb])
    exact h.aa hx hf (congrArg Ent.a this)
  have mem : ∀ y ∈ setL L f', (y = f' ∨ (y ∈ L ∧ y.b ≠ f'.b)) := by
    intro y hy
    unfold setL at hy
    obtain ⟨x, hx, rfl⟩ := List.mem_map.1 hy
    by_cases e : x.b = f'.b
    · rw [if_pos (by simp [e])]; exact .inl rfl
    · rw [if_neg (by simp [e])]; exact .inr ⟨hx, e⟩
  have hle : Only [f.a] w w' := ho
  have hr := h.rt f hf
  refine ⟨(ho.block g h.glt (by simpa using (h.ag hf).symm)).trans h.c, ?_, ?_, ?_, ?_, ?_, by unfold setL; rw [List.length_map]; exact h.len, h.n1, h.uj, h.j1, h.b1, h.b2, ?_⟩
  · rw [setL_ent h.bnd hf ha hb]
    exact h.mp.same (ho.block m h.mp.lt (by simpa using (h.am hf).symm))
  · intro y hy
    rcases mem y hy with rfl | ⟨hy, hne⟩
    · exact hF
    · exact (h.fr y hy).same (hle.block _ (h.fr y hy).lt (by
        simp only [List.mem_singleton]
        intro e
        have := h.aa hy hf e
        exact hne (by rw [this, hb])))
  · have hmap : (setL L f').map (·.u) = L.map (·.u) := by
      unfold setL
      rw [List.map_map]
      apply List.map_congr_left
      intro x hx
      show (if x.b == f'.b then f' else x).u = x.u
      by_cases e : x.b = f'.b
      · rw [if_pos (by simp [e]), hu, hkey x hx e]
      · rw [if_neg (by simp [e])]
    have h1 := h.us
    have h2 : (L.map (·.u)).Pairwise (· < ·) := List.pairwise_map.2 h1
    rw [← hmap] at h2
    exact List.pairwise_map.1 h2
  · intro y hy
    rcases mem y hy with rfl | ⟨hy, _⟩
    · rw [hu]; exact h.ub f hf
    · exact h.ub y hy
  · intro y hy
    rcases mem y hy with rfl | ⟨hy, _⟩
    · rw [hb]; exact ⟨hr.1, hd, hp⟩
    · exact h.rt y hy
  · intro y hy
    rcases mem y hy with rfl | ⟨hy, _⟩
    · rw [ha]; exact h.b3 f hf
    · exact h.b3 y hy
/-- a use noted -/
theorem CS.touch {B g m N J U : Nat} {L : List Fr} {w : World} (h : CS B g m w N J L U) {f : Fr} (hf : f ∈ L) (hJ : J + 1 ≤ 90000) :
    CS B g m ((w.setCell ⟨g, 2, none⟩ (.int .i64 ((U + 1 : Nat) : Int))).setCell ⟨f.a, 2, none⟩ (.int .i64 ((U + 1 : Nat) : Int))) N (J + 1) (dropL L f.b ++ [{ f with u := ((U + 1 : Nat) : Int) }]) (U + 1) ∧ Only (fpC g m L) w ((w.setCell ⟨g, 2, none⟩ (.int .i64 ((U + 1 : Nat) : Int))).setCell ⟨f.a, 2, none⟩ (.int .i64 ((U + 1 : Nat) : Int))) := by
  have hg := h.c
  have hF := h.fr f hf
  have hag := h.ag hf
  have hp := drop_perm h.bnd hf
  have g1 : (w.setCell ⟨g, 2, none⟩ (.int .i64 ((U + 1 : Nat) : Int))).heap[g]? = some (.cells #[.int .i64 (N : Int), .map (some m), .int .i64 ((U + 1 : Nat) : Int)] 57 (0, 0)) := (cells_set hg _).trans (by simp)
  have o1 : ∀ x, x ≠ g → x ≠ f.a → ((w.setCell ⟨g, 2, none⟩ (.int .i64 ((U + 1 : Nat) : Int))).setCell ⟨f.a, 2, none⟩ (.int .i64 ((U + 1 : Nat) : Int))).heap[x]? = w.heap[x]? := fun x h1 h2 => (Below.heap_setCell _ _ _ _ h2).trans (Below.heap_setCell _ _ _ _ h1)
  have f1 : (w.setCell ⟨g, 2, none⟩ (.int .i64 ((U + 1 : Nat) : Int))).heap[f.a]? = some (.cells #[.int .i64 f.p, .bool f.y, .int .i64 f.u, .int .i64 f.b, .string f.d] 73 (0, 0)) := (Below.heap_setCell _ _ _ _ hag).trans hF
  have f2 := (cells_set (j := 2) f1 (.int .i64 ((U + 1 : Nat) : Int))).trans (show _ = some (Obj.cells #[.int .i64 f.p, .bool f.y, .int .i64 ((U + 1 : Nat) : Int), .int .i64 f.b, .string f.d] 73 (0, 0)) by simp)
  have hub := h.ub
  refine ⟨⟨(Below.heap_setCell _ _ _ _ hag.symm).trans g1, ?_, ?_, ?_, ?_, ?_, ?_, h.n1, by have := h.uj; omega, hJ, h.b1, h.b2, ?_⟩, ?_⟩
  · have e : ((dropL L f.b ++ [{ f with u := ((U + 1 : Nat) : Int) }]).map ent).Perm (L.map ent) := by
      rw [List.map_append]
      have := hp.map ent
      rw [List.map_append] at this
      exact this
    exact ((h.mp.same (o1 m h.gm.symm (h.am hf).symm)).mono (by omega)).perm e
  · intro y hy
    rcases List.mem_append.1 hy with hy | hy
    · obtain ⟨hy, hne⟩ := mem_drop.1 hy
      exact (h.fr y hy).same (o1 _ (h.ag hy) (fun e => hne (by rw [h.aa hy hf e])))
    · rw [List.mem_singleton] at hy
      subst hy
      exact f2
  · rw [List.pairwise_append]
    refine ⟨h.us.filter _, by simp, ?_⟩
    intro x hx y hy
    rw [List.mem_singleton] at hy
    subst hy
    have := hub x (mem_drop.1 hx).1
    show x.u < ((U + 1 : Nat) : Int)
    omega
  · intro y hy
    rcases List.mem_append.1 hy with hy | hy
    · have := hub y (mem_drop.1 hy).1
      omega
    · rw [List.mem_singleton] at hy
      subst hy
      exact Int.le_refl _
  · intro y hy
    rcases List.mem_append.1 hy with hy | hy
    · have := h.rt y (mem_drop.1 hy).1
      exact ⟨this.1, this.2.1, this.2.2.1, by omega⟩
    · rw [List.mem_singleton] at hy
      subst hy
      have := h.rt f hf
      exact ⟨this.1, this.2.1, this.2.2.1, by have := this.2.2.2; show f.p ≤ _; omega⟩
  · have e := hp.length_eq
    have := h.len
    simp at e ⊢
    omega
  · intro y hy
    rcases List.mem_append.1 hy with hy | hy
    · exact h.b3 y (mem_drop.1 hy).1
    · rw [List.mem_singleton] at hy
      subst hy
      exact h.b3 f hf
  · refine ⟨rfl, rfl, rfl, by simp, fun k _ hn => o1 k ?_ ?_⟩
    · rintro rfl; exact hn (by simp [fpC])
    · rintro rfl; exact hn (by unfold fpC; simp; exact .inr (.inr ⟨f, hf, rfl⟩))
end Go.Proofs.Ytfjoajcfpldniaa
