import Derived.Test.YtdfafhclhfijnaaGreatDoorK1
namespace Go.Proofs.YtdfafhclhfijnaaGreatDoor
open Go.RowKit Go

section
variable {P : Program} {md : Region.Mode} {ops : Array Oper} {Q : Exit → Act → World → Prop}

def putIf (b : Bool) (d : Option Tmp) (v : Value) (a : Act) : Act := if b then a.put d v else a
def setIf (b : Bool) (i : Nat) (l : Array Bool) : Array Bool := if b then l.setIfInBounds i true else l
def cntF (b : Bool) : Nat := if b then 0 else 1

theorem putIf_comm (b b' : Bool) {d d' : Nat} (hd : d ≠ d') (v v' : Value) (a : Act) : putIf b (some d) v (putIf b' (some d') v' a) = putIf b' (some d') v' (putIf b (some d) v a) := by
  unfold putIf
  cases b <;> cases b' <;> simp [Act.put]
  exact Array.setIfInBounds_comm _ _ (Ne.symm hd)
theorem setIf_comm (b b' : Bool) {i i' : Nat} (hd : i ≠ i') (l : Array Bool) : setIf b i (setIf b' i' l) = setIf b' i' (setIf b i l) := by
  unfold setIf
  cases b <;> cases b' <;> simp
  exact Array.setIfInBounds_comm _ _ (Ne.symm hd)
theorem put_putIf (d : Option Tmp) (v : Value) (a : Act) : a.put d v = putIf true d v a := rfl
theorem set_setIf (i : Nat) (l : Array Bool) : l.setIfInBounds i true = setIf true i l := rfl
theorem putIf_false (d : Option Tmp) (v : Value) (a : Act) : putIf false d v a = a := rfl
theorem setIf_false (i : Nat) (l : Array Bool) : setIf false i l = l := rfl

/-- four reads and the laying of a block, in whatever order -/
theorem four_reads (l0 : Array Bool) (a0 : Act) (w0 wA : World) (i1 i2 i3 i4 i5 d1 d2 d3 d4 d5 : Nat) (v1 v2 v3 v4 v5 : Value) (F : Nat)
    (hd : d1 ≠ d2 ∧ d1 ≠ d3 ∧ d1 ≠ d4 ∧ d1 ≠ d5 ∧ d2 ≠ d3 ∧ d2 ≠ d4 ∧ d2 ≠ d5 ∧ d3 ≠ d4 ∧ d3 ≠ d5 ∧ d4 ≠ d5) (hi : i1 ≠ i2 ∧ i1 ≠ i3 ∧ i1 ≠ i4 ∧ i1 ≠ i5 ∧ i2 ≠ i3 ∧ i2 ≠ i4 ∧ i2 ≠ i5 ∧ i3 ≠ i4 ∧ i3 ≠ i5 ∧ i4 ≠ i5)
    (s1 : ∀ b2 b3 b4 b5 K, K (putIf true (some d1) v1 (putIf b2 (some d2) v2 (putIf b3 (some d3) v3 (putIf b4 (some d4) v4 (putIf b5 (some d5) v5 a0))))) (if b5 then wA else w0) → wpOp P ops Q i1 K (putIf b2 (some d2) v2 (putIf b3 (some d3) v3 (putIf b4 (some d4) v4 (putIf b5 (some d5) v5 a0)))) (if b5 then wA else w0))
    (s2 : ∀ b1 b3 b4 b5 K, K (putIf true (some d2) v2 (putIf b1 (some d1) v1 (putIf b3 (some d3) v3 (putIf b4 (some d4) v4 (putIf b5 (some d5) v5 a0))))) (if b5 then wA else w0) → wpOp P ops Q i2 K (putIf b1 (some d1) v1 (putIf b3 (some d3) v3 (putIf b4 (some d4) v4 (putIf b5 (some d5) v5 a0)))) (if b5 then wA else w0))
    (s3 : ∀ b1 b2 b4 b5 K, K (putIf true (some d3) v3 (putIf b1 (some d1) v1 (putIf b2 (some d2) v2 (putIf b4 (some d4) v4 (putIf b5 (some d5) v5 a0))))) (if b5 then wA else w0) → wpOp P ops Q i3 K (putIf b1 (some d1) v1 (putIf b2 (some d2) v2 (putIf b4 (some d4) v4 (putIf b5 (some d5) v5 a0)))) (if b5 then wA else w0))
    (s4 : ∀ b1 b2 b3 b5 K, K (putIf true (some d4) v4 (putIf b1 (some d1) v1 (putIf b2 (some d2) v2 (putIf b3 (some d3) v3 (putIf b5 (some d5) v5 a0))))) (if b5 then wA else w0) → wpOp P ops Q i4 K (putIf b1 (some d1) v1 (putIf b2 (some d2) v2 (putIf b3 (some d3) v3 (putIf b5 (some d5) v5 a0)))) (if b5 then wA else w0))
    (s5 : ∀ b1 b2 b3 b4 K, K (putIf true (some d5) v5 (putIf b1 (some d1) v1 (putIf b2 (some d2) v2 (putIf b3 (some d3) v3 (putIf b4 (some d4) v4 a0))))) wA → wpOp P ops Q i5 K (putIf b1 (some d1) v1 (putIf b2 (some d2) v2 (putIf b3 (some d3) v3 (putIf b4 (some d4) v4 a0)))) w0)
    (hr : ∀ b1 b2 b3 b4 b5, (b1 && b2 && b3 && b4) = false → Region.ready md ops (setIf b1 i1 (setIf b2 i2 (setIf b3 i3 (setIf b4 i4 (setIf b5 i5 l0))))) ≠ [] ∧ ∀ i ∈ Region.ready md ops (setIf b1 i1 (setIf b2 i2 (setIf b3 i3 (setIf b4 i4 (setIf b5 i5 l0))))), (i = i1 ∧ b1 = false) ∨ (i = i2 ∧ b2 = false) ∨ (i = i3 ∧ b3 = false) ∨ (i = i4 ∧ b4 = false) ∨ (i = i5 ∧ b5 = false))
    (e0 : wpAny P md ops Q (F + 1) (setIf true i1 (setIf true i2 (setIf true i3 (setIf true i4 l0)))) (putIf true (some d1) v1 (putIf true (some d2) v2 (putIf true (some d3) v3 (putIf true (some d4) v4 a0)))) w0)
    (e1 : wpAny P md ops Q F (setIf true i1 (setIf true i2 (setIf true i3 (setIf true i4 (setIf true i5 l0))))) (putIf true (some d1) v1 (putIf true (some d2) v2 (putIf true (some d3) v3 (putIf true (some d4) v4 (putIf true (some d5) v5 a0))))) wA) :
    wpAny P md ops Q (F + 5) l0 a0 w0 := by
  obtain ⟨x12, x13, x14, x15, x23, x24, x25, x34, x35, x45⟩ := hd
  obtain ⟨y12, y13, y14, y15, y23, y24, y25, y34, y35, y45⟩ := hi
  have key : ∀ m b1 b2 b3 b4 b5, cntF b1 + cntF b2 + cntF b3 + cntF b4 + cntF b5 = m → wpAny P md ops Q (F + m) (setIf b1 i1 (setIf b2 i2 (setIf b3 i3 (setIf b4 i4 (setIf b5 i5 l0))))) (putIf b1 (some d1) v1 (putIf b2 (some d2) v2 (putIf b3 (some d3) v3 (putIf b4 (some d4) v4 (putIf b5 (some d5) v5 a0))))) (if b5 then wA else w0) := by
    intro m
    induction m with
    | zero =>
      intro b1 b2 b3 b4 b5 hm
      cases b1 <;> cases b2 <;> cases b3 <;> cases b4 <;> cases b5 <;> simp [cntF] at hm
      exact e1
    | succ m ih =>
      intro b1 b2 b3 b4 b5 hm
      cases hall : (b1 && b2 && b3 && b4)
      · obtain ⟨r1, r2⟩ := hr b1 b2 b3 b4 b5 hall
        refine ⟨fun h => absurd h r1, fun i hi => ?_⟩
        rcases r2 i hi with ⟨rfl, rfl⟩ | ⟨rfl, rfl⟩ | ⟨rfl, rfl⟩ | ⟨rfl, rfl⟩ | ⟨rfl, rfl⟩
        · rw [putIf_false, setIf_false]
          refine s1 b2 b3 b4 b5 _ ?_
          rw [set_setIf]
          exact ih true b2 b3 b4 b5 (by simp [cntF] at hm ⊢; omega)
        · rw [putIf_false, setIf_false]
          refine s2 b1 b3 b4 b5 _ ?_
          rw [set_setIf, putIf_comm true b1 (Ne.symm x12), setIf_comm true b1 (Ne.symm y12)]
          exact ih b1 true b3 b4 b5 (by simp [cntF] at hm ⊢; omega)
        · rw [putIf_false, setIf_false]
          refine s3 b1 b2 b4 b5 _ ?_
          rw [set_setIf, putIf_comm true b1 (Ne.symm x13), setIf_comm true b1 (Ne.symm y13), putIf_comm true b2 (Ne.symm x23), setIf_comm true b2 (Ne.symm y23)]
          exact ih b1 b2 true b4 b5 (by simp [cntF] at hm ⊢; omega)
        · rw [putIf_false, setIf_false]
          refine s4 b1 b2 b3 b5 _ ?_
          rw [set_setIf, putIf_comm true b1 (Ne.symm x14), setIf_comm true b1 (Ne.symm y14), putIf_comm true b2 (Ne.symm x24), setIf_comm true b2 (Ne.symm y24), putIf_comm true b3 (Ne.symm x34), setIf_comm true b3 (Ne.symm y34)]
          exact ih b1 b2 b3 true b5 (by simp [cntF] at hm ⊢; omega)
        · rw [putIf_false, setIf_false]
          simp only [Bool.false_eq_true, if_false]
          refine s5 b1 b2 b3 b4 _ ?_
          rw [set_setIf, putIf_comm true b1 (Ne.symm x15), setIf_comm true b1 (Ne.symm y15), putIf_comm true b2 (Ne.symm x25), setIf_comm true b2 (Ne.symm y25), putIf_comm true b3 (Ne.symm x35), setIf_comm true b3 (Ne.symm y35), putIf_comm true b4 (Ne.symm x45), setIf_comm true b4 (Ne.symm y45)]
          exact ih b1 b2 b3 b4 true (by simp [cntF] at hm ⊢; omega)
      · simp only [Bool.and_eq_true] at hall
        obtain ⟨⟨⟨rfl, rfl⟩, rfl⟩, rfl⟩ := hall
        cases b5
        · have : m = 0 := by simp [cntF] at hm; omega
          subst this
          exact e0
        · simp [cntF] at hm
  exact key 5 false false false false false rfl
end
end Go.Proofs.YtdfafhclhfijnaaGreatDoor

namespace Go.Proofs.YtdfafhclhfijnaaGreatDoor
open Go.RowKit Go

theorem load_at {ops : Array Oper} {Q : Exit → Act → World → Prop} {i t s : Nat} {o : Oper} {ad : Addr} {v : Value} {K : Act → World → Prop} {a : Act} {w : World} (ho : ops[i]? = some o) (hg : o.guard = none) (hop : o.op = .load t (.tmp s)) (ht : t = 9 ∨ t = 27) (hs : a.eval (.tmp s) = .pointer (some ad)) (hc : w.cell? ad = some v) (hK : K (a.put o.dst v) w) : wpOp Tryz.prog ops Q i K a w := by
  unfold wpOp
  rw [ho]
  have hw : Region.wanted o (yielded ops a.tmps) = true := by simp [Region.wanted, hg]
  simp only [hw, if_true]
  left
  have hs' : a.tmps[s]?.getD undef = .pointer (some ad) := by simpa [Act.eval] using hs
  rcases ht with rfl | rfl
  all_goals
    unfold Oper.wp
    simp [execOp, hop, go_sem, hs', hc]
    exact hK

theorem alloc_at {ops : Array Oper} {Q : Exit → Act → World → Prop} {i : Nat} {o : Oper} {K : Act → World → Prop} {a : Act} {w : World} (ho : ops[i]? = some o) (hg : o.guard = none) (hop : o.op = .alloc 47) (hK : K (a.put o.dst (.pointer (some ⟨w.heap.size, 0, none⟩))) (w.alloc (.cells #[.int .i64 0, .string ⟨#[]⟩] 47))) : wpOp Tryz.prog ops Q i K a w := by
  unfold wpOp
  rw [ho]
  have hw : Region.wanted o (yielded ops a.tmps) = true := by simp [Region.wanted, hg]
  simp only [hw, if_true]
  left
  unfold Oper.wp
  simp [execOp, hop, go_sem]
  exact hK

theorem eval_putIf {b : Bool} {d s : Nat} (hds : d ≠ s) (v : Value) (a : Act) : (putIf b (some d) v a).eval (.tmp s) = a.eval (.tmp s) := by
  unfold putIf
  cases b
  · rfl
  · simp [Act.put, Act.eval, hds]

def allB (f : Bool → Bool) : Bool := f true && f false
theorem allB_spec {f : Bool → Bool} (h : allB f = true) (b : Bool) : f b = true := by
  simp only [allB, Bool.and_eq_true] at h
  cases b
  · exact h.2
  · exact h.1
def chk5 (ops : Array Oper) (l0 : Array Bool) (i1 i2 i3 i4 i5 : Nat) : Bool := allB fun b1 => allB fun b2 => allB fun b3 => allB fun b4 => allB fun b5 =>
  (b1 && b2 && b3 && b4) || (!(Region.ready .any ops (setIf b1 i1 (setIf b2 i2 (setIf b3 i3 (setIf b4 i4 (setIf b5 i5 l0)))))).isEmpty && (Region.ready .any ops (setIf b1 i1 (setIf b2 i2 (setIf b3 i3 (setIf b4 i4 (setIf b5 i5 l0)))))).all fun i => (i == i1 && !b1) || ((i == i2 && !b2) || ((i == i3 && !b3) || ((i == i4 && !b4) || (i == i5 && !b5)))))
theorem chk5_spec {ops : Array Oper} {l0 : Array Bool} {i1 i2 i3 i4 i5 : Nat} (h : chk5 ops l0 i1 i2 i3 i4 i5 = true) : ∀ b1 b2 b3 b4 b5, (b1 && b2 && b3 && b4) = false → Region.ready .any ops (setIf b1 i1 (setIf b2 i2 (setIf b3 i3 (setIf b4 i4 (setIf b5 i5 l0))))) ≠ [] ∧ ∀ i ∈ Region.ready .any ops (setIf b1 i1 (setIf b2 i2 (setIf b3 i3 (setIf b4 i4 (setIf b5 i5 l0))))), (i = i1 ∧ b1 = false) ∨ (i = i2 ∧ b2 = false) ∨ (i = i3 ∧ b3 = false) ∨ (i = i4 ∧ b4 = false) ∨ (i = i5 ∧ b5 = false) := by
  intro b1 b2 b3 b4 b5 hall
  have h1 := allB_spec (allB_spec (allB_spec (allB_spec (allB_spec h b1) b2) b3) b4) b5
  rw [hall, Bool.false_or, Bool.and_eq_true] at h1
  refine ⟨fun e => by rw [e] at h1; simp at h1, fun i hi => ?_⟩
  have h2 := List.all_eq_true.1 h1.2 i hi
  simpa [Bool.or_eq_true, Bool.and_eq_true] using h2

theorem keepTy_two {w : World} {b : Nat} {cs : Array Value} {t : TypeId} (h : w.heap[b]? = some (.cells cs t (0, 0))) (u v : Value) : KeepTy [t] w ((w.setCell ⟨b, 0, none⟩ u).setCell ⟨b, 1, none⟩ v) :=
  ⟨(set_two w b u v).size, fun k hk hc => (set_two w b u v).block k hk (fun e => by
    have : k = b := Option.some.inj e
    subst this
    exact hc _ _ _ h (by simp))⟩
theorem two_set {w : World} {b : Nat} {x y : Value} {t : TypeId} (h : w.heap[b]? = some (.cells #[x, y] t (0, 0))) (u v : Value) : ((w.setCell ⟨b, 0, none⟩ u).setCell ⟨b, 1, none⟩ v).heap[b]? = some (.cells #[u, v] t (0, 0)) := by
  have h1 := heap_setCell_same w b 0 #[x, y] t u h
  have h2 := heap_setCell_same (w.setCell ⟨b, 0, none⟩ u) b 1 _ t v h1
  rw [h2]; rfl
end Go.Proofs.YtdfafhclhfijnaaGreatDoor
