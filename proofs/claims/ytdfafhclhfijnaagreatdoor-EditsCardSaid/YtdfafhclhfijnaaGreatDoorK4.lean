import Derived.Test.YtdfafhclhfijnaaGreatDoorQ5
namespace Go.Proofs.YtdfafhclhfijnaaGreatDoor
open Go.RowKit Go.Maps Go.Shelf

theorem keepTy_one {w : World} {b : Nat} {cs : Array Value} {t : TypeId} (h : w.heap[b]? = some (.cells cs t (0, 0))) (o : Nat) (v : Value) : KeepTy [t] w (w.setCell ⟨b, o, none⟩ v) :=
  ⟨by simp [World.setCell], fun k _ hc => Below.heap_setCell _ _ _ k (fun e => by
    have e : k = b := e
    subst e
    exact hc _ _ _ h (by simp))⟩

/-- the law's world: a book was written down -/
theorem law_store {base lw pw N i : Nat} {w : World} {os : Nat → Nat} {ids : Nat → Int} {ls : Nat → List Reg} (hL : LSt base w lw pw N os ids ls) (hi : i < N) {v : Value} {l : List Reg} (hB : Bk 57 w v l) :
    LSt base (w.setCell ⟨os i, 1, none⟩ v) lw pw N os ids (upd ls i l) ∧ KeepTy [42] w (w.setCell ⟨os i, 1, none⟩ v) ∧ Below base w (w.setCell ⟨os i, 1, none⟩ v) := by
  obtain ⟨h1, bv, h2, h3⟩ := hL.ones i hi
  have hk := keepTy_one h2 1 v
  refine ⟨⟨hL.lwb, Nat.le_trans hL.hb hk.size, ?_, ?_, hL.dist⟩, hk, (Below.refl _ _).setCell (p := ⟨os i, 1, none⟩) h1 _⟩
  · obtain ⟨la, lc, a, b⟩ := hL.law
    exact ⟨la, lc, (hk.cells.same _ _ _ _ a (by decide)).trans a, row_keep b hk.cells (by decide)⟩
  · intro j hj
    by_cases e : j = i
    · subst e
      rw [upd_same]
      refine ⟨h1, v, ?_, row_keep hB hk.cells (by decide)⟩
      rw [heap_setCell_same _ _ 1 _ _ _ h2]; rfl
    · rw [upd_other _ _ e]
      obtain ⟨q1, bv', q2, q3⟩ := hL.ones j hj
      refine ⟨q1, bv', ?_, row_keep q3 hk.cells (by decide)⟩
      rw [Below.heap_setCell _ _ _ (os j) (fun e' => hL.dist j i hj hi e e')]; exact q2

theorem fault_store {base lw pw N n fb : Nat} {w w6 : World} {rs : Nat → RD} {os : Nat → Nat} {ids : Nat → Int} {ls : Nat → List Reg} {x y : Value} {bv : Value} {el : List Reg} (hf : w6.heap[fb]? = some (.cells #[x, y] 47 (0, 0))) (hfb : base ≤ fb)
    (hP : PSt base w6 pw N rs n) (hL : LSt base w6 lw pw N os ids ls) (hB : Bk 57 w6 bv el) (hb : Below base w w6) (u v : Value) :
    ((w6.setCell ⟨fb, 0, none⟩ u).setCell ⟨fb, 1, none⟩ v).heap[fb]? = some (.cells #[u, v] 47 (0, 0)) ∧ PSt base ((w6.setCell ⟨fb, 0, none⟩ u).setCell ⟨fb, 1, none⟩ v) pw N rs n ∧ LSt base ((w6.setCell ⟨fb, 0, none⟩ u).setCell ⟨fb, 1, none⟩ v) lw pw N os ids ls ∧ Bk 57 ((w6.setCell ⟨fb, 0, none⟩ u).setCell ⟨fb, 1, none⟩ v) bv el ∧ Below base w ((w6.setCell ⟨fb, 0, none⟩ u).setCell ⟨fb, 1, none⟩ v) := by
  have hk := keepTy_two hf u v
  exact ⟨two_set hf u v, hP.keep (Nat.le_refl _) hk (by decide) (by decide) (by decide), hL.keep hk.cells (by decide) (by decide) (by decide) (by decide), row_keep hB hk.cells (by decide), (hb.setCell (p := ⟨fb, 0, none⟩) hfb _).setCell (p := ⟨fb, 1, none⟩) hfb _⟩

/-- behind the call, the block of the answer made then -/
theorem fault_late {base lw pw N n : Nat} {w w4 w5 : World} {rs : Nat → RD} {os : Nat → Nat} {ids : Nat → Int} {ls : Nat → List Reg} {bv : Value} {el : List Reg}
    (hP : PSt base w5 pw N rs n) (hL : LSt base w4 lw pw N os ids ls) (hB : Bk 57 w4 bv el) (hb : Below base w w4) (hk : KeepCells [108] w4.drew w5) (hb5 : Below base w4.drew w5) (u v : Value) :
    (w5.alloc (.cells #[u, v] 47)).heap[w5.heap.size]? = some (.cells #[u, v] 47 (0, 0)) ∧ PSt base (w5.alloc (.cells #[u, v] 47)) pw N rs n ∧ LSt base (w5.alloc (.cells #[u, v] 47)) lw pw N os ids ls ∧ Bk 57 (w5.alloc (.cells #[u, v] 47)) bv el ∧ Below base w (w5.alloc (.cells #[u, v] 47)) := by
  have hd : Below w4.heap.size w4 w4.drew := (Below.refl _ _).drew
  have ha : Below w5.heap.size w5 (w5.alloc (.cells #[u, v] 47)) := (Below.refl _ _).alloc (Nat.le_refl _) _
  have hk' : KeepCells ([108] ++ []) w4.drew (w5.alloc (.cells #[u, v] 47)) := hk.trans (KeepCells.of_below ha)
  exact ⟨World.alloc_heap_new w5 _, hP.below (Nat.le_refl _) ha, (hL.below hd).keep hk' (by decide) (by decide) (by decide) (by decide), row_keep (row_keep (S := []) hB (KeepCells.of_below hd) (by simp)) hk' (by decide), (hb.drew.trans hb5).trans (ha.mono hP.hb)⟩

/-- behind the call, the block of the answer made ahead of it -/
theorem fault_early {base lw pw N n : Nat} {w w4 w5 : World} {rs : Nat → RD} {os : Nat → Nat} {ids : Nat → Int} {ls : Nat → List Reg} {bv : Value} {el : List Reg}
    (hP : PSt base w5 pw N rs n) (hL : LSt base w4 lw pw N os ids ls) (hB : Bk 57 w4 bv el) (hb : Below base w w4) (hk : KeepCells [108] (w4.drew.alloc (.cells #[.int .i64 0, .string ⟨#[]⟩] 47)) w5) (hb5 : Below base (w4.drew.alloc (.cells #[.int .i64 0, .string ⟨#[]⟩] 47)) w5) (u v : Value) :
    w5.heap[w4.heap.size]? = some (.cells #[.int .i64 0, .string ⟨#[]⟩] 47 (0, 0)) ∧ ((w5.setCell ⟨w4.heap.size, 0, none⟩ u).setCell ⟨w4.heap.size, 1, none⟩ v).heap[w4.heap.size]? = some (.cells #[u, v] 47 (0, 0)) ∧ PSt base ((w5.setCell ⟨w4.heap.size, 0, none⟩ u).setCell ⟨w4.heap.size, 1, none⟩ v) pw N rs n ∧ LSt base ((w5.setCell ⟨w4.heap.size, 0, none⟩ u).setCell ⟨w4.heap.size, 1, none⟩ v) lw pw N os ids ls ∧ Bk 57 ((w5.setCell ⟨w4.heap.size, 0, none⟩ u).setCell ⟨w4.heap.size, 1, none⟩ v) bv el ∧ Below base w ((w5.setCell ⟨w4.heap.size, 0, none⟩ u).setCell ⟨w4.heap.size, 1, none⟩ v) := by
  have ha : Below w4.heap.size w4 (w4.drew.alloc (.cells #[.int .i64 0, .string ⟨#[]⟩] 47)) := (Below.refl _ _).drew.alloc (Nat.le_refl _) _
  have hn : (w4.drew.alloc (.cells #[.int .i64 0, .string ⟨#[]⟩] 47)).heap[w4.heap.size]? = some (.cells #[.int .i64 0, .string ⟨#[]⟩] 47 (0, 0)) := World.alloc_heap_new w4.drew _
  have hf : w5.heap[w4.heap.size]? = some (.cells #[.int .i64 0, .string ⟨#[]⟩] 47 (0, 0)) := (hk.same _ _ _ _ hn (by decide)).trans hn
  exact ⟨hf, fault_store hf hL.hb hP ((hL.below ha).keep hk (by decide) (by decide) (by decide) (by decide)) (row_keep (row_keep (S := []) hB (KeepCells.of_below ha) (by simp)) hk (by decide)) ((hb.trans (ha.mono hL.hb)).trans hb5) u v⟩
end Go.Proofs.YtdfafhclhfijnaaGreatDoor

namespace Go.Proofs.YtdfafhclhfijnaaGreatDoor
open Go.RowKit Go

section
variable {P : Program} {md : Region.Mode} {ops : Array Oper} {Q : Exit → Act → World → Prop}

/-- two reads and the laying of a block, in whatever order -/
theorem two_reads (l0 : Array Bool) (a0 : Act) (w0 wA : World) (i1 i2 i5 d1 d2 d5 : Nat) (v1 v2 v5 : Value) (F : Nat)
    (hd : d1 ≠ d2 ∧ d1 ≠ d5 ∧ d2 ≠ d5) (hi : i1 ≠ i2 ∧ i1 ≠ i5 ∧ i2 ≠ i5)
    (s1 : ∀ b2 b5 K, K (putIf true (some d1) v1 (putIf b2 (some d2) v2 (putIf b5 (some d5) v5 a0))) (if b5 then wA else w0) → wpOp P ops Q i1 K (putIf b2 (some d2) v2 (putIf b5 (some d5) v5 a0)) (if b5 then wA else w0))
    (s2 : ∀ b1 b5 K, K (putIf true (some d2) v2 (putIf b1 (some d1) v1 (putIf b5 (some d5) v5 a0))) (if b5 then wA else w0) → wpOp P ops Q i2 K (putIf b1 (some d1) v1 (putIf b5 (some d5) v5 a0)) (if b5 then wA else w0))
    (s5 : ∀ b1 b2 K, K (putIf true (some d5) v5 (putIf b1 (some d1) v1 (putIf b2 (some d2) v2 a0))) wA → wpOp P ops Q i5 K (putIf b1 (some d1) v1 (putIf b2 (some d2) v2 a0)) w0)
    (hr : ∀ b1 b2 b5, (b1 && b2) = false → Region.ready md ops (setIf b1 i1 (setIf b2 i2 (setIf b5 i5 l0))) ≠ [] ∧ ∀ i ∈ Region.ready md ops (setIf b1 i1 (setIf b2 i2 (setIf b5 i5 l0))), (i = i1 ∧ b1 = false) ∨ (i = i2 ∧ b2 = false) ∨ (i = i5 ∧ b5 = false))
    (e0 : wpAny P md ops Q (F + 1) (setIf true i1 (setIf true i2 l0)) (putIf true (some d1) v1 (putIf true (some d2) v2 a0)) w0)
    (e1 : wpAny P md ops Q F (setIf true i1 (setIf true i2 (setIf true i5 l0))) (putIf true (some d1) v1 (putIf true (some d2) v2 (putIf true (some d5) v5 a0))) wA) :
    wpAny P md ops Q (F + 3) l0 a0 w0 := by
  obtain ⟨x12, x15, x25⟩ := hd
  obtain ⟨y12, y15, y25⟩ := hi
  have key : ∀ m b1 b2 b5, cntF b1 + cntF b2 + cntF b5 = m → wpAny P md ops Q (F + m) (setIf b1 i1 (setIf b2 i2 (setIf b5 i5 l0))) (putIf b1 (some d1) v1 (putIf b2 (some d2) v2 (putIf b5 (some d5) v5 a0))) (if b5 then wA else w0) := by
    intro m
    induction m with
    | zero =>
      intro b1 b2 b5 hm
      cases b1 <;> cases b2 <;> cases b5 <;> simp [cntF] at hm
      exact e1
    | succ m ih =>
      intro b1 b2 b5 hm
      cases hall : (b1 && b2)
      · obtain ⟨r1, r2⟩ := hr b1 b2 b5 hall
        refine ⟨fun h => absurd h r1, fun i hi => ?_⟩
        rcases r2 i hi with ⟨rfl, rfl⟩ | ⟨rfl, rfl⟩ | ⟨rfl, rfl⟩
        · rw [putIf_false, setIf_false]
          refine s1 b2 b5 _ ?_
          rw [set_setIf]
          exact ih true b2 b5 (by simp [cntF] at hm ⊢; omega)
        · rw [putIf_false, setIf_false]
          refine s2 b1 b5 _ ?_
          rw [set_setIf, putIf_comm true b1 (Ne.symm x12), setIf_comm true b1 (Ne.symm y12)]
          exact ih b1 true b5 (by simp [cntF] at hm ⊢; omega)
        · rw [putIf_false, setIf_false]
          simp only [Bool.false_eq_true, if_false]
          refine s5 b1 b2 _ ?_
          rw [set_setIf, putIf_comm true b1 (Ne.symm x15), setIf_comm true b1 (Ne.symm y15), putIf_comm true b2 (Ne.symm x25), setIf_comm true b2 (Ne.symm y25)]
          exact ih b1 b2 true (by simp [cntF] at hm ⊢; omega)
      · simp only [Bool.and_eq_true] at hall
        obtain ⟨rfl, rfl⟩ := hall
        cases b5
        · have : m = 0 := by simp [cntF] at hm; omega
          subst this
          exact e0
        · simp [cntF] at hm
  exact key 3 false false false rfl
end

def chk3 (ops : Array Oper) (l0 : Array Bool) (i1 i2 i5 : Nat) : Bool := allB fun b1 => allB fun b2 => allB fun b5 =>
  (b1 && b2) || (!(Region.ready .any ops (setIf b1 i1 (setIf b2 i2 (setIf b5 i5 l0)))).isEmpty && (Region.ready .any ops (setIf b1 i1 (setIf b2 i2 (setIf b5 i5 l0)))).all fun i => (i == i1 && !b1) || ((i == i2 && !b2) || (i == i5 && !b5)))
theorem chk3_spec {ops : Array Oper} {l0 : Array Bool} {i1 i2 i5 : Nat} (h : chk3 ops l0 i1 i2 i5 = true) : ∀ b1 b2 b5, (b1 && b2) = false → Region.ready .any ops (setIf b1 i1 (setIf b2 i2 (setIf b5 i5 l0))) ≠ [] ∧ ∀ i ∈ Region.ready .any ops (setIf b1 i1 (setIf b2 i2 (setIf b5 i5 l0))), (i = i1 ∧ b1 = false) ∨ (i = i2 ∧ b2 = false) ∨ (i = i5 ∧ b5 = false) := by
  intro b1 b2 b5 hall
  have h1 := allB_spec (allB_spec (allB_spec h b1) b2) b5
  rw [hall, Bool.false_or, Bool.and_eq_true] at h1
  refine ⟨fun e => by rw [e] at h1; simp at h1, fun i hi => ?_⟩
  have h2 := List.all_eq_true.1 h1.2 i hi
  simpa [Bool.or_eq_true, Bool.and_eq_true] using h2
end Go.Proofs.YtdfafhclhfijnaaGreatDoor
