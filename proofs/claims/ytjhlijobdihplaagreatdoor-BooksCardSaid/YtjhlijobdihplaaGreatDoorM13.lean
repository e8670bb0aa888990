import Derived.StillTail
import Derived.StillTactics
import Derived.Test.YtjhlijobdihplaaGreatDoorT1
namespace Go.Proofs.YtjhlijobdihplaaGreatDoor
open Go.RowKit Go

section
variable {P : Program} {ops : Array Oper} {w : World}

/-- i stands ahead of t, by at most f edges -/
def ancB (ops : Array Oper) : Nat → Nat → Nat → Bool
  | 0, _, _ => false
  | f + 1, t, i => (List.range ops.size).any fun j => Region.waitsFor .any ops t j && (decide (j = i) || ancB ops f j i)

/-- whatever stands behind n waits, by some way, for all that stands ahead of n -/
def headB (ops : Array Oper) (n : Nat) : Bool := (List.range ops.size).all fun t => decide (t < n) || (List.range n).all fun i => ancB ops ops.size t i

theorem anc_listed {n : Nat} {listed : Array Bool} (inv : HeadInv .any ops n listed) : ∀ (f t i : Nat), (∀ o, ops[t]? = some o → ∀ e ∈ o.after, Region.binds .any e = true → listed.getD e.on false = true) → ancB ops f t i = true → listed.getD i false = true
  | 0, _, _, _, h => by cases h
  | f + 1, t, i, hd, h => by
    obtain ⟨j, _, hj⟩ := List.any_eq_true.1 h
    simp only [Bool.and_eq_true, Bool.or_eq_true, decide_eq_true_eq] at hj
    obtain ⟨o, ho, e, he, hb, hon⟩ := Region.waitsFor_spec hj.1
    have hl := hd o ho e he hb
    rw [hon] at hl
    rcases hj.2 with rfl | h2
    · exact hl
    · exact anc_listed inv f j i (fun o' ho' e' he' hb' => inv.closed j o' ho' hl e' he' hb') h2

theorem head_first {n : Nat} {listed : Array Bool} (hB : headB ops n = true) (inv : HeadInv .any ops n listed) {i : Nat} (hi : i < n) (hun : listed.getD i true = false) {t : Nat} (ht : t ∈ Region.ready .any ops listed) : t < n := by
  rcases Nat.lt_or_ge t n with h | h
  · exact h
  · exfalso
    obtain ⟨_, o, ho, hall⟩ := mem_ready.1 ht
    have htl : t < ops.size := (Array.getElem?_eq_some_iff.1 ho).1
    have h1 := List.all_eq_true.1 hB t (List.mem_range.2 htl)
    simp only [Bool.or_eq_true, decide_eq_true_eq] at h1
    rcases h1 with h1 | h1
    · omega
    · have h2 := List.all_eq_true.1 h1 i (List.mem_range.2 hi)
      have h3 := anc_listed inv _ t i (fun o' ho' e he hb => by
        rw [ho] at ho'; cases ho'
        exact hall e he hb) h2
      rw [getD_both hun] at h3
      cases h3

/-- of the reads, one that may come up may come up first -/
theorem reads_first {n i : Nat} {oi : Oper} {v : Value} {L : Array Bool → Act → Prop} (hi : ops[i]? = some oi) (hsel : ∀ (j : Nat) (o : Oper) cs b, ops[j]? = some o → o.op ≠ .select cs b) (hB : headB ops n = true) (hin : i < n)
    (hL : ∀ listed a, L listed a → ∀ j ∈ Region.ready .any ops listed, n ≤ j) (f : Nat) :
    ∀ (listed : Array Bool) (a : Act), HeadInv .any ops n listed → (∀ j oj, ops[j]? = some oj → j ≠ i → listed.getD j true = false → (∀ e ∈ oj.after, Region.binds .any e = true → e.on ≠ i) → oi.apart ops oj = true) →
      i ∈ Region.ready .any ops listed → YieldsAt P ops w oi v a → wpAnyL P .any ops w n L f (listed.setIfInBounds i true) (a.put oi.dst v) → wpAnyL P .any ops w n L (f + 1) listed a := by
  induction f with
  | zero =>
    intro listed a inv _ hr hy H
    refine ⟨fun h => (by rw [h] at hr; cases hr), fun j hj => ?_⟩
    have hjn := head_first hB inv hin (mem_ready.1 hr).1 hj
    refine ⟨hjn, ?_⟩
    by_cases e : j = i
    · subst e; exact hy.stOp hi H
    · exact absurd (hL _ _ H j (ready_mono hj e)) (by omega)
  | succ f ih =>
    intro listed a inv hfree hr hy H
    have hun := (mem_ready.1 hr).1
    refine ⟨fun h => (by rw [h] at hr; cases hr), fun j hj => ?_⟩
    have hjn := head_first hB inv hin hun hj
    refine ⟨hjn, ?_⟩
    by_cases e : j = i
    · subst e; exact hy.stOp hi H
    · obtain ⟨hju, oj, hoj, hall⟩ := mem_ready.1 hj
      have hno : ∀ e ∈ oj.after, Region.binds .any e = true → e.on ≠ i := fun e' he hb heq => by
        have := hall e' he hb
        rw [heq, getD_both hun] at this
        cases this
      have hput := stOp_put hoj (hfree j oj hoj e hju hno) (fun cs b => hsel i oi cs b hi) (fun cs b => hsel j oj cs b hoj) hy (H.2 j (ready_mono hj e)).2
      refine stOp_mono (fun a' h3 => ih _ a' (inv.set hj hjn) (fun k ok hk hki hku => hfree k ok hk hki ?_) (ready_mono hr (Ne.symm e)) h3.1 ?_) hput
      · by_cases hjk : j = k
        · subst hjk; exact hju
        · rw [getD_set_ne true hjk] at hku; exact hku
      · rw [Array.setIfInBounds_comm _ _ e]; exact h3.2

def listedTo (m : Nat) : Nat → Array Bool
  | 0 => Array.replicate m false
  | k + 1 => (listedTo m k).setIfInBounds k true

/-- each of the reads may come up in the order of the text; behind them only what stands behind -/
def readsB (ops : Array Oper) (n : Nat) : Bool :=
  Region.noSelect ops && decide (n < ops.size) && headB ops n && ((List.range n).all fun k => (Region.ready .any ops (listedTo ops.size k)).contains k && Region.free .any ops (listedTo ops.size k) k) && (Region.ready .any ops (listedTo ops.size n)).all fun j => decide (n ≤ j)

theorem reads_lex {n : Nat} {Lq : Act → Prop} (hB : readsB ops n = true) : ∀ (l : List Oper) (k : Nat) (a : Act), (∀ j, j < l.length → l[j]? = ops[k + j]?) → k + l.length = n → HeadInv .any ops n (listedTo ops.size k) → wpStill P ops w Lq l a →
    wpAnyL P .any ops w n (fun listed' a' => listed' = listedTo ops.size n ∧ Lq a') l.length (listedTo ops.size k) a
  | [], k, a, _, hk, _, h => by
    have : k = n := by simpa using hk
    subst this
    exact ⟨rfl, h⟩
  | o :: l, k, a, hl, hk, inv, h => by
    have hB' := hB
    simp only [readsB, Bool.and_eq_true, decide_eq_true_eq] at hB'
    obtain ⟨⟨⟨⟨hsel, hn⟩, hh⟩, hr⟩, hlast⟩ := hB'
    have hkn : k < n := by simp only [List.length_cons] at hk; omega
    have h0 : ops[k]? = some o := by simpa using (hl 0 (by simp)).symm
    have hrk := List.all_eq_true.1 hr k (List.mem_range.2 hkn)
    simp only [Bool.and_eq_true] at hrk
    have hr' : k ∈ Region.ready .any ops (listedTo ops.size k) := by simpa using hrk.1
    have hst : stOp P ops w k (wpStill P ops w Lq l) a := by unfold stOp; simp only [h0]; exact h
    obtain ⟨v, hy, hK⟩ := yieldsAt_of_stOp h0 hst
    refine reads_first h0 (Region.noSelect_spec hsel) hh hkn (fun listed' a' hL => ?_) l.length _ a inv (Region.free_spec h0 hrk.2) hr' hy ?_
    · rw [hL.1]
      intro j hj
      have := List.all_eq_true.1 hlast j hj
      simpa using this
    · exact reads_lex hB l (k + 1) _ (fun j hj => by have := hl (j + 1) (by simp; omega); simpa [Nat.add_assoc, Nat.add_comm 1 j] using this) (by simp only [List.length_cons] at hk; omega) (inv.set hr' hkn) hK

/-- a region that draws: the first n operations read, in whatever order; all others wait for them -/
theorem region_reads {id : Nat} {Q : Exit → Act → World → Prop} {a : Act} {l : List Oper} (n : Nat) (hm : P.follows .mixedOrders = true) (hB : readsB l.toArray n = true)
    (h : wpStill P l.toArray w.drew (fun a' => wpAny P .any l.toArray Q (l.toArray.size - n) (listedTo l.toArray.size n) a' w.drew) (l.take n) a) : (Code.region id l.toArray true).wp P Q a w := by
  have hB' := hB
  simp only [readsB, Bool.and_eq_true, decide_eq_true_eq] at hB'
  have hn : n < l.length := by simpa using hB'.1.1.1.2
  have htl : (l.take n).length = n := by simp; omega
  have inv0 : HeadInv .any l.toArray n (listedTo l.toArray.size 0) :=
    ⟨by simp [listedTo], fun j oj _ hl => (by rw [listedTo, getD_replicate_false] at hl; cases hl), fun t _ ht => getD_in (by simpa [listedTo] using ht) (getD_replicate_false _ _)⟩
  have H := reads_lex hB (l.take n) 0 a (fun j hj => by
    have hj' : j < n := by rw [htl] at hj; exact hj
    simp [hj']) (by simpa using htl) inv0 h
  refine wp_region_any hm ?_
  have := wpAny_of_head (Q' := Q) (g := l.toArray.size - n) (fun listed a' hL => by rw [hL.1]; exact hL.2) _ _ _ H
  have hs : n < l.toArray.size := by simpa using hn
  rw [htl, Nat.add_sub_cancel' (Nat.le_of_lt hs)] at this
  exact this
end
end Go.Proofs.YtjhlijobdihplaaGreatDoor
namespace Go.Proofs.YtjhlijobdihplaaGreatDoor
open Go.RowKit Go

section
variable {P : Program} {md : Region.Mode} {ops : Array Oper} {Q : Exit → Act → World → Prop}

def putIf (b : Bool) (d : Option Tmp) (v : Value) (a : Act) : Act := if b then a.put d v else a
def setIf (b : Bool) (i : Nat) (l : Array Bool) : Array Bool := if b then l.setIfInBounds i true else l
def cntF (b : Bool) : Nat := if b then 0 else 1

theorem putIf_comm (b b' : Bool) {d d' : Nat} (hd : d ≠ d') (v v' : Value) (a : Act) : putIf b (some d) v (putIf b' (some d') v' a) = putIf b' (some d') v' (putIf b (some d) v a) := by
  unfold putIf
  cases b <;> cases b' <;> simp [Act.put]
  exact Array.setIfInBounds_comm _ _ (Ne.symm hd)
theorem setIf_comm (b b' : Bool) {i i' : Nat} (hd : i ≠ i') (l : Array Bool) : setIf b i (setIf b' i' l) = setIf b' i' (setIf b i l) := by
  unfold setIf
  cases b <;> cases b' <;> simp
  exact Array.setIfInBounds_comm _ _ (Ne.symm hd)
theorem put_putIf (d : Option Tmp) (v : Value) (a : Act) : a.put d v = putIf true d v a := rfl
theorem set_setIf (i : Nat) (l : Array Bool) : l.setIfInBounds i true = setIf true i l := rfl
theorem putIf_false (d : Option Tmp) (v : Value) (a : Act) : putIf false d v a = a := rfl
theorem setIf_false (i : Nat) (l : Array Bool) : setIf false i l = l := rfl

/-- four reads and the laying of a block, in whatever order -/
theorem four_reads (l0 : Array Bool) (a0 : Act) (w0 wA : World) (i1 i2 i3 i4 i5 d1 d2 d3 d4 d5 : Nat) (v1 v2 v3 v4 v5 : Value) (F : Nat)
    (hd : d1 ≠ d2 ∧ d1 ≠ d3 ∧ d1 ≠ d4 ∧ d1 ≠ d5 ∧ d2 ≠ d3 ∧ d2 ≠ d4 ∧ d2 ≠ d5 ∧ d3 ≠ d4 ∧ d3 ≠ d5 ∧ d4 ≠ d5) (hi : i1 ≠ i2 ∧ i1 ≠ i3 ∧ i1 ≠ i4 ∧ i1 ≠ i5 ∧ i2 ≠ i3 ∧ i2 ≠ i4 ∧ i2 ≠ i5 ∧ i3 ≠ i4 ∧ i3 ≠ i5 ∧ i4 ≠ i5)
    (s1 : ∀ b2 b3 b4 b5 K, K (putIf true (some d1) v1 (putIf b2 (some d2) v2 (putIf b3 (some d3) v3 (putIf b4 (some d4) v4 (putIf b5 (some d5) v5 a0))))) (if b5 then wA else w0) → wpOp P ops Q i1 K (putIf b2 (some d2) v2 (putIf b3 (some d3) v3 (putIf b4 (some d4) v4 (putIf b5 (some d5) v5 a0)))) (if b5 then wA else w0))
    (s2 : ∀ b1 b3 b4 b5 K, K (putIf true (some d2) v2 (putIf b1 (some d1) v1 (putIf b3 (some d3) v3 (putIf b4 (some d4) v4 (putIf b5 (some d5) v5 a0))))) (if b5 then wA else w0) → wpOp P ops Q i2 K (putIf b1 (some d1) v1 (putIf b3 (some d3) v3 (putIf b4 (some d4) v4 (putIf b5 (some d5) v5 a0)))) (if b5 then wA else w0))
    (s3 : ∀ b1 b2 b4 b5 K, K (putIf true (some d3) v3 (putIf b1 (some d1) v1 (putIf b2 (some d2) v2 (putIf b4 (some d4) v4 (putIf b5 (some d5) v5 a0))))) (if b5 then wA else w0) → wpOp P ops Q i3 K (putIf b1 (some d1) v1 (putIf b2 (some d2) v2 (putIf b4 (some d4) v4 (putIf b5 (some d5) v5 a0)))) (if b5 then wA else w0))
    (s4 : ∀ b1 b2 b3 b5 K, K (putIf true (some d4) v4 (putIf b1 (some d1) v1 (putIf b2 (some d2) v2 (putIf b3 (some d3) v3 (putIf b5 (some d5) v5 a0))))) (if b5 then wA else w0) → wpOp P ops Q i4 K (putIf b1 (some d1) v1 (putIf b2 (some d2) v2 (putIf b3 (some d3) v3 (putIf b5 (some d5) v5 a0)))) (if b5 then wA else w0))
    (s5 : ∀ b1 b2 b3 b4 K, K (putIf true (some d5) v5 (putIf b1 (some d1) v1 (putIf b2 (some d2) v2 (putIf b3 (some d3) v3 (putIf b4 (some d4) v4 a0))))) wA → wpOp P ops Q i5 K (putIf b1 (some d1) v1 (putIf b2 (some d2) v2 (putIf b3 (some d3) v3 (putIf b4 (some d4) v4 a0)))) w0)
    (hr : ∀ b1 b2 b3 b4 b5, (b1 && b2 && b3 && b4) = false → Region.ready md ops (setIf b1 i1 (setIf b2 i2 (setIf b3 i3 (setIf b4 i4 (setIf b5 i5 l0))))) ≠ [] ∧ ∀ i ∈ Region.ready md ops (setIf b1 i1 (setIf b2 i2 (setIf b3 i3 (setIf b4 i4 (setIf b5 i5 l0))))), (i = i1 ∧ b1 = false) ∨ (i = i2 ∧ b2 = false) ∨ (i = i3 ∧ b3 = false) ∨ (i = i4 ∧ b4 = false) ∨ (i = i5 ∧ b5 = false))
    (e0 : wpAny P md ops Q (F + 1) (setIf true i1 (setIf true i2 (setIf true i3 (setIf true i4 l0)))) (putIf true (some d1) v1 (putIf true (some d2) v2 (putIf true (some d3) v3 (putIf true (some d4) v4 a0)))) w0)
    (e1 : wpAny P md ops Q F (setIf true i1 (setIf true i2 (setIf true i3 (setIf true i4 (setIf true i5 l0))))) (putIf true (some d1) v1 (putIf true (some d2) v2 (putIf true (some d3) v3 (putIf true (some d4) v4 (putIf true (some d5) v5 a0))))) wA) :
    wpAny P md ops Q (F + 5) l0 a0 w0 := by
  obtain ⟨x12, x13, x14, x15, x23, x24, x25, x34, x35, x45⟩ := hd
  obtain ⟨y12, y13, y14, y15, y23, y24, y25, y34, y35, y45⟩ := hi
  have key : ∀ m b1 b2 b3 b4 b5, cntF b1 + cntF b2 + cntF b3 + cntF b4 + cntF b5 = m → wpAny P md ops Q (F + m) (setIf b1 i1 (setIf b2 i2 (setIf b3 i3 (setIf b4 i4 (setIf b5 i5 l0))))) (putIf b1 (some d1) v1 (putIf b2 (some d2) v2 (putIf b3 (some d3) v3 (putIf b4 (some d4) v4 (putIf b5 (some d5) v5 a0))))) (if b5 then wA else w0) := by
    intro m
    induction m with
    | zero =>
      intro b1 b2 b3 b4 b5 hm
      cases b1 <;> cases b2 <;> cases b3 <;> cases b4 <;> cases b5 <;> simp [cntF] at hm
      exact e1
    | succ m ih =>
      intro b1 b2 b3 b4 b5 hm
      cases hall : (b1 && b2 && b3 && b4)
      · obtain ⟨r1, r2⟩ := hr b1 b2 b3 b4 b5 hall
        refine ⟨fun h => absurd h r1, fun i hi => ?_⟩
        rcases r2 i hi with ⟨rfl, rfl⟩ | ⟨rfl, rfl⟩ | ⟨rfl, rfl⟩ | ⟨rfl, rfl⟩ | ⟨rfl, rfl⟩
        · rw [putIf_false, setIf_false]
          refine s1 b2 b3 b4 b5 _ ?_
          rw [set_setIf]
          exact ih true b2 b3 b4 b5 (by simp [cntF] at hm ⊢; omega)
        · rw [putIf_false, setIf_false]
          refine s2 b1 b3 b4 b5 _ ?_
          rw [set_setIf, putIf_comm true b1 (Ne.symm x12), setIf_comm true b1 (Ne.symm y12)]
          exact ih b1 true b3 b4 b5 (by simp [cntF] at hm ⊢; omega)
        · rw [putIf_false, setIf_false]
          refine s3 b1 b2 b4 b5 _ ?_
          rw [set_setIf, putIf_comm true b1 (Ne.symm x13), setIf_comm true b1 (Ne.symm y13), putIf_comm true b2 (Ne.symm x23), setIf_comm true b2 (Ne.symm y23)]
          exact ih b1 b2 true b4 b5 (by simp [cntF] at hm ⊢; omega)
        · rw [putIf_false, setIf_false]
          refine s4 b1 b2 b3 b5 _ ?_
          rw [set_setIf, putIf_comm true b1 (Ne.symm x14), setIf_comm true b1 (Ne.symm y14), putIf_comm true b2 (Ne.symm x24), setIf_comm true b2 (Ne.symm y24), putIf_comm true b3 (Ne.symm x34), setIf_comm true b3 (Ne.symm y34)]
          exact ih b1 b2 b3 true b5 (by simp [cntF] at hm ⊢; omega)
        · rw [putIf_false, setIf_false]
          simp only [Bool.false_eq_true, if_false]
          refine s5 b1 b2 b3 b4 _ ?_
          rw [set_setIf, putIf_comm true b1 (Ne.symm x15), setIf_comm true b1 (Ne.symm y15), putIf_comm true b2 (Ne.symm x25), setIf_comm true b2 (Ne.symm y25), putIf_comm true b3 (Ne.symm x35), setIf_comm true b3 (Ne.symm y35), putIf_comm true b4 (Ne.symm x45), setIf_comm true b4 (Ne.symm y45)]
          exact ih b1 b2 b3 b4 true (by simp [cntF] at hm ⊢; omega)
      · simp only [Bool.and_eq_true] at hall
        obtain ⟨⟨⟨rfl, rfl⟩, rfl⟩, rfl⟩ := hall
        cases b5
        · have : m = 0 := by simp [cntF] at hm; omega
          subst this
          exact e0
        · simp [cntF] at hm
  exact key 5 false false false false false rfl
end
end Go.Proofs.YtjhlijobdihplaaGreatDoor

namespace Go.Proofs.YtjhlijobdihplaaGreatDoor
open Go.RowKit Go

theorem load_at {ops : Array Oper} {Q : Exit → Act → World → Prop} {i t s : Nat} {o : Oper} {ad : Addr} {v : Value} {K : Act → World → Prop} {a : Act} {w : World} (ho : ops[i]? = some o) (hg : o.guard = none) (hop : o.op = .load t (.tmp s)) (ht : t = 9 ∨ t = 27) (hs : a.eval (.tmp s) = .pointer (some ad)) (hc : w.cell? ad = some v) (hK : K (a.put o.dst v) w) : wpOp Tryz.prog ops Q i K a w := by
  unfold wpOp
  rw [ho]
  have hw : Region.wanted o (yielded ops a.tmps) = true := by simp [Region.wanted, hg]
  simp only [hw, if_true]
  left
  have hs' : a.tmps[s]?.getD undef = .pointer (some ad) := by simpa [Act.eval] using hs
  rcases ht with rfl | rfl
  all_goals
    unfold Oper.wp
    simp [execOp, hop, go_sem, hs', hc]
    exact hK

theorem alloc_at {ops : Array Oper} {Q : Exit → Act → World → Prop} {i : Nat} {o : Oper} {K : Act → World → Prop} {a : Act} {w : World} (ho : ops[i]? = some o) (hg : o.guard = none) (hop : o.op = .alloc 47) (hK : K (a.put o.dst (.pointer (some ⟨w.heap.size, 0, none⟩))) (w.alloc (.cells #[.int .i64 0, .string ⟨#[]⟩] 47))) : wpOp Tryz.prog ops Q i K a w := by
  unfold wpOp
  rw [ho]
  have hw : Region.wanted o (yielded ops a.tmps) = true := by simp [Region.wanted, hg]
  simp only [hw, if_true]
  left
  unfold Oper.wp
  simp [execOp, hop, go_sem]
  exact hK

theorem eval_putIf {b : Bool} {d s : Nat} (hds : d ≠ s) (v : Value) (a : Act) : (putIf b (some d) v a).eval (.tmp s) = a.eval (.tmp s) := by
  unfold putIf
  cases b
  · rfl
  · simp [Act.put, Act.eval, hds]

def allB (f : Bool → Bool) : Bool := f true && f false
theorem allB_spec {f : Bool → Bool} (h : allB f = true) (b : Bool) : f b = true := by
  simp only [allB, Bool.and_eq_true] at h
  cases b
  · exact h.2
  · exact h.1
def chk5 (ops : Array Oper) (l0 : Array Bool) (i1 i2 i3 i4 i5 : Nat) : Bool := allB fun b1 => allB fun b2 => allB fun b3 => allB fun b4 => allB fun b5 =>
  (b1 && b2 && b3 && b4) || (!(Region.ready .any ops (setIf b1 i1 (setIf b2 i2 (setIf b3 i3 (setIf b4 i4 (setIf b5 i5 l0)))))).isEmpty && (Region.ready .any ops (setIf b1 i1 (setIf b2 i2 (setIf b3 i3 (setIf b4 i4 (setIf b5 i5 l0)))))).all fun i => (i == i1 && !b1) || ((i == i2 && !b2) || ((i == i3 && !b3) || ((i == i4 && !b4) || (i == i5 && !b5)))))
theorem chk5_spec {ops : Array Oper} {l0 : Array Bool} {i1 i2 i3 i4 i5 : Nat} (h : chk5 ops l0 i1 i2 i3 i4 i5 = true) : ∀ b1 b2 b3 b4 b5, (b1 && b2 && b3 && b4) = false → Region.ready .any ops (setIf b1 i1 (setIf b2 i2 (setIf b3 i3 (setIf b4 i4 (setIf b5 i5 l0))))) ≠ [] ∧ ∀ i ∈ Region.ready .any ops (setIf b1 i1 (setIf b2 i2 (setIf b3 i3 (setIf b4 i4 (setIf b5 i5 l0))))), (i = i1 ∧ b1 = false) ∨ (i = i2 ∧ b2 = false) ∨ (i = i3 ∧ b3 = false) ∨ (i = i4 ∧ b4 = false) ∨ (i = i5 ∧ b5 = false) := by
  intro b1 b2 b3 b4 b5 hall
  have h1 := allB_spec (allB_spec (allB_spec (allB_spec (allB_spec h b1) b2) b3) b4) b5
  rw [hall, Bool.false_or, Bool.and_eq_true] at h1
  refine ⟨fun e => by rw [e] at h1; simp at h1, fun i hi => ?_⟩
  have h2 := List.all_eq_true.1 h1.2 i hi
  simpa [Bool.or_eq_true, Bool.and_eq_true] using h2

theorem keepTy_two {w : World} {b : Nat} {cs : Array Value} {t : TypeId} (h : w.heap[b]? = some (.cells cs t (0, 0))) (u v : Value) : KeepTy [t] w ((w.setCell ⟨b, 0, none⟩ u).setCell ⟨b, 1, none⟩ v) :=
  ⟨(set_two w b u v).size, fun k hk hc => (set_two w b u v).block k hk (fun e => by
    have : k = b := Option.some.inj e
    subst this
    exact hc _ _ _ h (by simp))⟩
theorem two_set {w : World} {b : Nat} {x y : Value} {t : TypeId} (h : w.heap[b]? = some (.cells #[x, y] t (0, 0))) (u v : Value) : ((w.setCell ⟨b, 0, none⟩ u).setCell ⟨b, 1, none⟩ v).heap[b]? = some (.cells #[u, v] t (0, 0)) := by
  have h1 := heap_setCell_same w b 0 #[x, y] t u h
  have h2 := heap_setCell_same (w.setCell ⟨b, 0, none⟩ u) b 1 _ t v h1
  rw [h2]; rfl
end Go.Proofs.YtjhlijobdihplaaGreatDoor
namespace Go.Proofs.YtjhlijobdihplaaGreatDoor
open Go.RowKit Go.Maps Go.Shelf

theorem upd_self {α : Type} (f : Nat → α) (i : Nat) : upd f i (f i) = f := by
  funext j
  by_cases e : j = i
  · subst e; rw [upd_same]
  · rw [upd_other _ _ e]

theorem putQ {base pw N n i : Nat} {rs : Nat → RD} {w : World} (h : PSt base w pw N rs n) (hE : ErrT w) (hi : i < N) (hN : N ≤ 5000) (hn : n < 5000) (s t u : ByteArray) (hs : s.size ≤ 5000) (ht : t.size ≤ 5000) (hu : u.size ≤ 5000) :
    Calls Tryz.prog 13 #[.pointer (some ⟨pw, 0, none⟩), .int .i64 i, .string s, .string t, .string u] w
      fun e w' => e = .returned (.agg #[.int .i64 (putL (rs i).l (rs i).id s t u).2.1, .string (putL (rs i).l (rs i).id s t u).2.2]) ∧ ∃ r', r'.id = (rs i).id ∧ r'.l = (putL (rs i).l (rs i).id s t u).1 ∧ PSt base w' pw N (upd rs i r') (n + 1) ∧ KeepCells [108] w w' ∧ Below base w w' := by
  have hm : (5000 : Nat) ≤ maxLen := by unfold maxLen; decide
  obtain ⟨g, cap, ha⟩ := h.at hi (by omega)
  have hr := h.reps i hi
  by_cases hbad : (putErr s t u).1 = 0
  · have hb1 : smallB s 8 = true := by
      cases hb : smallB s 8
      · simp [putErr, hb] at hbad
      · rfl
    have hb2 : smallB t 4 = true := by
      cases hb : smallB t 4
      · simp [putErr, hb1, hb] at hbad
      · rfl
    have hb3 : (u.size : Int) ≤ 20 := by
      by_cases hb : 20 < (u.size : Int)
      · simp [putErr, hb1, hb2, hb] at hbad
      · omega
    have e1 : putL (rs i).l (rs i).id s t u = (withL (rs i).l (putReg (rs i).l (rs i).id s t u), 0, ⟨#[]⟩) := by
      have : ¬ 20 < (u.size : Int) := by omega
      simp [putL, hb1, hb2, this]
    rw [e1]
    refine (putP_ok (rs i) n pw g i N cap s t u w ha hr (by omega) (by have := small_size hb1; omega) (by omega) (by omega) hb1 hb2 hb3).mono ?_
    rintro e w' ⟨rfl, r', q1, q2, q3, q4⟩
    exact ⟨rfl, r', q1, q2, h.eff (by omega) hi q4 q3, KeepCells.of_eff hr q4, low_eff h hi q4⟩
  · have e1 : putL (rs i).l (rs i).id s t u = ((rs i).l, (putErr s t u).1, (putErr s t u).2) := by
      unfold putErr at hbad ⊢
      unfold putL
      split
      · simp
      · rename_i x
        split
        · simp
        · rename_i y
          split
          · simp
          · rename_i z; simp [x, y, z] at hbad
    rw [e1]
    refine (putP_no (rs i).p pw g i N cap s t u w ha hE (by omega) (by omega) (by omega) hbad).mono ?_
    rintro e w' ⟨rfl, hb⟩
    exact ⟨rfl, rs i, rfl, rfl, by rw [upd_self]; exact h.below (by omega) hb, KeepCells.of_below hb, hb.mono h.hb⟩

theorem delQ {base pw N n i : Nat} {rs : Nat → RD} {w : World} (h : PSt base w pw N rs n) (hE : ErrT w) (hi : i < N) (hN : N ≤ 5000) (hn : n < 5000) (s : ByteArray) (hs : s.size ≤ 5000) :
    Calls Tryz.prog 15 #[.pointer (some ⟨pw, 0, none⟩), .int .i64 i, .string s] w
      fun e w' => e = .returned (.agg #[.int .i64 (deleteL (rs i).l (rs i).id s).2.1, .string (deleteL (rs i).l (rs i).id s).2.2]) ∧ ∃ r', r'.id = (rs i).id ∧ r'.l = (deleteL (rs i).l (rs i).id s).1 ∧ PSt base w' pw N (upd rs i r') (n + 1) ∧ KeepCells [108] w w' ∧ Below base w w' := by
  have hm : (5000 : Nat) ≤ maxLen := by unfold maxLen; decide
  obtain ⟨g, cap, ha⟩ := h.at hi (by omega)
  have hr := h.reps i hi
  by_cases hok : smallB s 8 = true ∧ (fieldsL (rs i).l s).length ≠ 0
  · have e1 : deleteL (rs i).l (rs i).id s = (withL (rs i).l (delReg (rs i).l (rs i).id s), 0, ⟨#[]⟩) := by
      simp only [deleteL, hok.1, Bool.true_eq_false, if_false, if_neg hok.2]
    rw [e1]
    refine (delP_ok (rs i) n pw g i N cap s w ha hr (by omega) (by have := small_size hok.1; omega) hok.1 hok.2).mono ?_
    rintro e w' ⟨rfl, r', q1, q2, q3, q4⟩
    exact ⟨rfl, r', q1, q2, h.eff (by omega) hi q4 q3, KeepCells.of_eff hr q4, low_eff h hi q4⟩
  · have hno : smallB s 8 = false ∨ (fieldsL (rs i).l s).length = 0 := by
      cases hb : smallB s 8
      · exact .inl rfl
      · right
        by_cases hz : (fieldsL (rs i).l s).length = 0
        · exact hz
        · exact absurd ⟨hb, hz⟩ hok
    have e1 : deleteL (rs i).l (rs i).id s = ((rs i).l, (if smallB s 8 = false then 1 else 4), s) := by
      unfold deleteL
      cases hb : smallB s 8
      · simp
      · rcases hno with h0 | h0
        · rw [hb] at h0; cases h0
        · simp [h0]
    rw [e1]
    refine (delP_no (rs i) n pw g i N cap s w ha hE hr (by omega) hno).mono ?_
    rintro e w' ⟨rfl, hb⟩
    exact ⟨rfl, rs i, rfl, rfl, by rw [upd_self]; exact h.below (by omega) hb, KeepCells.of_below hb, hb.mono h.hb⟩
end Go.Proofs.YtjhlijobdihplaaGreatDoor
namespace Go.Proofs.YtjhlijobdihplaaGreatDoor
open Go.RowKit Go.Maps Go.Shelf

theorem keepTy_one {w : World} {b : Nat} {cs : Array Value} {t : TypeId} (h : w.heap[b]? = some (.cells cs t (0, 0))) (o : Nat) (v : Value) : KeepTy [t] w (w.setCell ⟨b, o, none⟩ v) :=
  ⟨by simp [World.setCell], fun k _ hc => Below.heap_setCell _ _ _ k (fun e => by
    have e : k = b := e
    subst e
    exact hc _ _ _ h (by simp))⟩

/-- the law's world: a book was written down -/
theorem law_store {base lw pw N i : Nat} {w : World} {os : Nat → Nat} {ids : Nat → Int} {ls : Nat → List Reg} (hL : LSt base w lw pw N os ids ls) (hi : i < N) {v : Value} {l : List Reg} (hB : Bk 57 w v l) :
    LSt base (w.setCell ⟨os i, 1, none⟩ v) lw pw N os ids (upd ls i l) ∧ KeepTy [42] w (w.setCell ⟨os i, 1, none⟩ v) ∧ Below base w (w.setCell ⟨os i, 1, none⟩ v) := by
  obtain ⟨h1, bv, h2, h3⟩ := hL.ones i hi
  have hk := keepTy_one h2 1 v
  refine ⟨⟨hL.lwb, Nat.le_trans hL.hb hk.size, ?_, ?_, hL.dist⟩, hk, (Below.refl _ _).setCell (p := ⟨os i, 1, none⟩) h1 _⟩
  · obtain ⟨la, lc, a, b⟩ := hL.law
    exact ⟨la, lc, (hk.cells.same _ _ _ _ a (by decide)).trans a, row_keep b hk.cells (by decide)⟩
  · intro j hj
    by_cases e : j = i
    · subst e
      rw [upd_same]
      refine ⟨h1, v, ?_, row_keep hB hk.cells (by decide)⟩
      rw [heap_setCell_same _ _ 1 _ _ _ h2]; rfl
    · rw [upd_other _ _ e]
      obtain ⟨q1, bv', q2, q3⟩ := hL.ones j hj
      refine ⟨q1, bv', ?_, row_keep q3 hk.cells (by decide)⟩
      rw [Below.heap_setCell _ _ _ (os j) (fun e' => hL.dist j i hj hi e e')]; exact q2

theorem fault_store {base lw pw N n fb : Nat} {w w6 : World} {rs : Nat → RD} {os : Nat → Nat} {ids : Nat → Int} {ls : Nat → List Reg} {x y : Value} {bv : Value} {el : List Reg} (hf : w6.heap[fb]? = some (.cells #[x, y] 47 (0, 0))) (hfb : base ≤ fb)
    (hP : PSt base w6 pw N rs n) (hL : LSt base w6 lw pw N os ids ls) (hB : Bk 57 w6 bv el) (hb : Below base w w6) (u v : Value) :
    ((w6.setCell ⟨fb, 0, none⟩ u).setCell ⟨fb, 1, none⟩ v).heap[fb]? = some (.cells #[u, v] 47 (0, 0)) ∧ PSt base ((w6.setCell ⟨fb, 0, none⟩ u).setCell ⟨fb, 1, none⟩ v) pw N rs n ∧ LSt base ((w6.setCell ⟨fb, 0, none⟩ u).setCell ⟨fb, 1, none⟩ v) lw pw N os ids ls ∧ Bk 57 ((w6.setCell ⟨fb, 0, none⟩ u).setCell ⟨fb, 1, none⟩ v) bv el ∧ Below base w ((w6.setCell ⟨fb, 0, none⟩ u).setCell ⟨fb, 1, none⟩ v) := by
  have hk := keepTy_two hf u v
  exact ⟨two_set hf u v, hP.keep (Nat.le_refl _) hk (by decide) (by decide) (by decide), hL.keep hk.cells (by decide) (by decide) (by decide) (by decide), row_keep hB hk.cells (by decide), (hb.setCell (p := ⟨fb, 0, none⟩) hfb _).setCell (p := ⟨fb, 1, none⟩) hfb _⟩

/-- behind the call, the block of the answer made then -/
theorem fault_late {base lw pw N n : Nat} {w w4 w5 : World} {rs : Nat → RD} {os : Nat → Nat} {ids : Nat → Int} {ls : Nat → List Reg} {bv : Value} {el : List Reg}
    (hP : PSt base w5 pw N rs n) (hL : LSt base w4 lw pw N os ids ls) (hB : Bk 57 w4 bv el) (hb : Below base w w4) (hk : KeepCells [108] w4.drew w5) (hb5 : Below base w4.drew w5) (u v : Value) :
    (w5.alloc (.cells #[u, v] 47)).heap[w5.heap.size]? = some (.cells #[u, v] 47 (0, 0)) ∧ PSt base (w5.alloc (.cells #[u, v] 47)) pw N rs n ∧ LSt base (w5.alloc (.cells #[u, v] 47)) lw pw N os ids ls ∧ Bk 57 (w5.alloc (.cells #[u, v] 47)) bv el ∧ Below base w (w5.alloc (.cells #[u, v] 47)) := by
  have hd : Below w4.heap.size w4 w4.drew := (Below.refl _ _).drew
  have ha : Below w5.heap.size w5 (w5.alloc (.cells #[u, v] 47)) := (Below.refl _ _).alloc (Nat.le_refl _) _
  have hk' : KeepCells ([108] ++ []) w4.drew (w5.alloc (.cells #[u, v] 47)) := hk.trans (KeepCells.of_below ha)
  exact ⟨World.alloc_heap_new w5 _, hP.below (Nat.le_refl _) ha, (hL.below hd).keep hk' (by decide) (by decide) (by decide) (by decide), row_keep (row_keep (S := []) hB (KeepCells.of_below hd) (by simp)) hk' (by decide), (hb.drew.trans hb5).trans (ha.mono hP.hb)⟩

/-- behind the call, the block of the answer made ahead of it -/
theorem fault_early {base lw pw N n : Nat} {w w4 w5 : World} {rs : Nat → RD} {os : Nat → Nat} {ids : Nat → Int} {ls : Nat → List Reg} {bv : Value} {el : List Reg}
    (hP : PSt base w5 pw N rs n) (hL : LSt base w4 lw pw N os ids ls) (hB : Bk 57 w4 bv el) (hb : Below base w w4) (hk : KeepCells [108] (w4.drew.alloc (.cells #[.int .i64 0, .string ⟨#[]⟩] 47)) w5) (hb5 : Below base (w4.drew.alloc (.cells #[.int .i64 0, .string ⟨#[]⟩] 47)) w5) (u v : Value) :
    w5.heap[w4.heap.size]? = some (.cells #[.int .i64 0, .string ⟨#[]⟩] 47 (0, 0)) ∧ ((w5.setCell ⟨w4.heap.size, 0, none⟩ u).setCell ⟨w4.heap.size, 1, none⟩ v).heap[w4.heap.size]? = some (.cells #[u, v] 47 (0, 0)) ∧ PSt base ((w5.setCell ⟨w4.heap.size, 0, none⟩ u).setCell ⟨w4.heap.size, 1, none⟩ v) pw N rs n ∧ LSt base ((w5.setCell ⟨w4.heap.size, 0, none⟩ u).setCell ⟨w4.heap.size, 1, none⟩ v) lw pw N os ids ls ∧ Bk 57 ((w5.setCell ⟨w4.heap.size, 0, none⟩ u).setCell ⟨w4.heap.size, 1, none⟩ v) bv el ∧ Below base w ((w5.setCell ⟨w4.heap.size, 0, none⟩ u).setCell ⟨w4.heap.size, 1, none⟩ v) := by
  have ha : Below w4.heap.size w4 (w4.drew.alloc (.cells #[.int .i64 0, .string ⟨#[]⟩] 47)) := (Below.refl _ _).drew.alloc (Nat.le_refl _) _
  have hn : (w4.drew.alloc (.cells #[.int .i64 0, .string ⟨#[]⟩] 47)).heap[w4.heap.size]? = some (.cells #[.int .i64 0, .string ⟨#[]⟩] 47 (0, 0)) := World.alloc_heap_new w4.drew _
  have hf : w5.heap[w4.heap.size]? = some (.cells #[.int .i64 0, .string ⟨#[]⟩] 47 (0, 0)) := (hk.same _ _ _ _ hn (by decide)).trans hn
  exact ⟨hf, fault_store hf hL.hb hP ((hL.below ha).keep hk (by decide) (by decide) (by decide) (by decide)) (row_keep (row_keep (S := []) hB (KeepCells.of_below ha) (by simp)) hk (by decide)) ((hb.trans (ha.mono hL.hb)).trans hb5) u v⟩
end Go.Proofs.YtjhlijobdihplaaGreatDoor

namespace Go.Proofs.YtjhlijobdihplaaGreatDoor
open Go.RowKit Go

section
variable {P : Program} {md : Region.Mode} {ops : Array Oper} {Q : Exit → Act → World → Prop}

/-- two reads and the laying of a block, in whatever order -/
theorem two_reads (l0 : Array Bool) (a0 : Act) (w0 wA : World) (i1 i2 i5 d1 d2 d5 : Nat) (v1 v2 v5 : Value) (F : Nat)
    (hd : d1 ≠ d2 ∧ d1 ≠ d5 ∧ d2 ≠ d5) (hi : i1 ≠ i2 ∧ i1 ≠ i5 ∧ i2 ≠ i5)
    (s1 : ∀ b2 b5 K, K (putIf true (some d1) v1 (putIf b2 (some d2) v2 (putIf b5 (some d5) v5 a0))) (if b5 then wA else w0) → wpOp P ops Q i1 K (putIf b2 (some d2) v2 (putIf b5 (some d5) v5 a0)) (if b5 then wA else w0))
    (s2 : ∀ b1 b5 K, K (putIf true (some d2) v2 (putIf b1 (some d1) v1 (putIf b5 (some d5) v5 a0))) (if b5 then wA else w0) → wpOp P ops Q i2 K (putIf b1 (some d1) v1 (putIf b5 (some d5) v5 a0)) (if b5 then wA else w0))
    (s5 : ∀ b1 b2 K, K (putIf true (some d5) v5 (putIf b1 (some d1) v1 (putIf b2 (some d2) v2 a0))) wA → wpOp P ops Q i5 K (putIf b1 (some d1) v1 (putIf b2 (some d2) v2 a0)) w0)
    (hr : ∀ b1 b2 b5, (b1 && b2) = false → Region.ready md ops (setIf b1 i1 (setIf b2 i2 (setIf b5 i5 l0))) ≠ [] ∧ ∀ i ∈ Region.ready md ops (setIf b1 i1 (setIf b2 i2 (setIf b5 i5 l0))), (i = i1 ∧ b1 = false) ∨ (i = i2 ∧ b2 = false) ∨ (i = i5 ∧ b5 = false))
    (e0 : wpAny P md ops Q (F + 1) (setIf true i1 (setIf true i2 l0)) (putIf true (some d1) v1 (putIf true (some d2) v2 a0)) w0)
    (e1 : wpAny P md ops Q F (setIf true i1 (setIf true i2 (setIf true i5 l0))) (putIf true (some d1) v1 (putIf true (some d2) v2 (putIf true (some d5) v5 a0))) wA) :
    wpAny P md ops Q (F + 3) l0 a0 w0 := by
  obtain ⟨x12, x15, x25⟩ := hd
  obtain ⟨y12, y15, y25⟩ := hi
  have key : ∀ m b1 b2 b5, cntF b1 + cntF b2 + cntF b5 = m → wpAny P md ops Q (F + m) (setIf b1 i1 (setIf b2 i2 (setIf b5 i5 l0))) (putIf b1 (some d1) v1 (putIf b2 (some d2) v2 (putIf b5 (some d5) v5 a0))) (if b5 then wA else w0) := by
    intro m
    induction m with
    | zero =>
      intro b1 b2 b5 hm
      cases b1 <;> cases b2 <;> cases b5 <;> simp [cntF] at hm
      exact e1
    | succ m ih =>
      intro b1 b2 b5 hm
      cases hall : (b1 && b2)
      · obtain ⟨r1, r2⟩ := hr b1 b2 b5 hall
        refine ⟨fun h => absurd h r1, fun i hi => ?_⟩
        rcases r2 i hi with ⟨rfl, rfl⟩ | ⟨rfl, rfl⟩ | ⟨rfl, rfl⟩
        · rw [putIf_false, setIf_false]
          refine s1 b2 b5 _ ?_
          rw [set_setIf]
          exact ih true b2 b5 (by simp [cntF] at hm ⊢; omega)
        · rw [putIf_false, setIf_false]
          refine s2 b1 b5 _ ?_
          rw [set_setIf, putIf_comm true b1 (Ne.symm x12), setIf_comm true b1 (Ne.symm y12)]
          exact ih b1 true b5 (by simp [cntF] at hm ⊢; omega)
        · rw [putIf_false, setIf_false]
          simp only [Bool.false_eq_true, if_false]
          refine s5 b1 b2 _ ?_
          rw [set_setIf, putIf_comm true b1 (Ne.symm x15), setIf_comm true b1 (Ne.symm y15), putIf_comm true b2 (Ne.symm x25), setIf_comm true b2 (Ne.symm y25)]
          exact ih b1 b2 true (by simp [cntF] at hm ⊢; omega)
      · simp only [Bool.and_eq_true] at hall
        obtain ⟨rfl, rfl⟩ := hall
        cases b5
        · have : m = 0 := by simp [cntF] at hm; omega
          subst this
          exact e0
        · simp [cntF] at hm
  exact key 3 false false false rfl
end

def chk3 (ops : Array Oper) (l0 : Array Bool) (i1 i2 i5 : Nat) : Bool := allB fun b1 => allB fun b2 => allB fun b5 =>
  (b1 && b2) || (!(Region.ready .any ops (setIf b1 i1 (setIf b2 i2 (setIf b5 i5 l0)))).isEmpty && (Region.ready .any ops (setIf b1 i1 (setIf b2 i2 (setIf b5 i5 l0)))).all fun i => (i == i1 && !b1) || ((i == i2 && !b2) || (i == i5 && !b5)))
theorem chk3_spec {ops : Array Oper} {l0 : Array Bool} {i1 i2 i5 : Nat} (h : chk3 ops l0 i1 i2 i5 = true) : ∀ b1 b2 b5, (b1 && b2) = false → Region.ready .any ops (setIf b1 i1 (setIf b2 i2 (setIf b5 i5 l0))) ≠ [] ∧ ∀ i ∈ Region.ready .any ops (setIf b1 i1 (setIf b2 i2 (setIf b5 i5 l0))), (i = i1 ∧ b1 = false) ∨ (i = i2 ∧ b2 = false) ∨ (i = i5 ∧ b5 = false) := by
  intro b1 b2 b5 hall
  have h1 := allB_spec (allB_spec (allB_spec h b1) b2) b5
  rw [hall, Bool.false_or, Bool.and_eq_true] at h1
  refine ⟨fun e => by rw [e] at h1; simp at h1, fun i hi => ?_⟩
  have h2 := List.all_eq_true.1 h1.2 i hi
  simpa [Bool.or_eq_true, Bool.and_eq_true] using h2
end Go.Proofs.YtjhlijobdihplaaGreatDoor
