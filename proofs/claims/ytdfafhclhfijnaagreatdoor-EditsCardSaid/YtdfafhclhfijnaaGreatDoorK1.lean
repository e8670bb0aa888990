import Derived.StillTail
import Derived.StillTactics
import Derived.Test.YtdfafhclhfijnaaGreatDoorT1
namespace Go.Proofs.YtdfafhclhfijnaaGreatDoor
open Go.RowKit Go

section
variable {P : Program} {ops : Array Oper} {w : World}

/-- i stands ahead of t, by at most f edges -/
def ancB (ops : Array Oper) : Nat → Nat → Nat → Bool
  | 0, _, _ => false
  | f + 1, t, i => (List.range ops.size).any fun j => Region.waitsFor .any ops t j && (decide (j = i) || ancB ops f j i)

/-- whatever stands behind n waits, by some way, for all that stands ahead of n -/
def headB (ops : Array Oper) (n : Nat) : Bool := (List.range ops.size).all fun t => decide (t < n) || (List.range n).all fun i => ancB ops ops.size t i

theorem anc_listed {n : Nat} {listed : Array Bool} (inv : HeadInv .any ops n listed) : ∀ (f t i : Nat), (∀ o, ops[t]? = some o → ∀ e ∈ o.after, Region.binds .any e = true → listed.getD e.on false = true) → ancB ops f t i = true → listed.getD i false = true
  | 0, _, _, _, h => by cases h
  | f + 1, t, i, hd, h => by
    obtain ⟨j, _, hj⟩ := List.any_eq_true.1 h
    simp only [Bool.and_eq_true, Bool.or_eq_true, decide_eq_true_eq] at hj
    obtain ⟨o, ho, e, he, hb, hon⟩ := Region.waitsFor_spec hj.1
    have hl := hd o ho e he hb
    rw [hon] at hl
    rcases hj.2 with rfl | h2
    · exact hl
    · exact anc_listed inv f j i (fun o' ho' e' he' hb' => inv.closed j o' ho' hl e' he' hb') h2

theorem head_first {n : Nat} {listed : Array Bool} (hB : headB ops n = true) (inv : HeadInv .any ops n listed) {i : Nat} (hi : i < n) (hun : listed.getD i true = false) {t : Nat} (ht : t ∈ Region.ready .any ops listed) : t < n := by
  rcases Nat.lt_or_ge t n with h | h
  · exact h
  · exfalso
    obtain ⟨_, o, ho, hall⟩ := mem_ready.1 ht
    have htl : t < ops.size := (Array.getElem?_eq_some_iff.1 ho).1
    have h1 := List.all_eq_true.1 hB t (List.mem_range.2 htl)
    simp only [Bool.or_eq_true, decide_eq_true_eq] at h1
    rcases h1 with h1 | h1
    · omega
    · have h2 := List.all_eq_true.1 h1 i (List.mem_range.2 hi)
      have h3 := anc_listed inv _ t i (fun o' ho' e he hb => by
        rw [ho] at ho'; cases ho'
        exact hall e he hb) h2
      rw [getD_both hun] at h3
      cases h3

/-- of the reads, one that may come up may come up first -/
theorem reads_first {n i : Nat} {oi : Oper} {v : Value} {L : Array Bool → Act → Prop} (hi : ops[i]? = some oi) (hsel : ∀ (j : Nat) (o : Oper) cs b, ops[j]? = some o → o.op ≠ .select cs b) (hB : headB ops n = true) (hin : i < n)
    (hL : ∀ listed a, L listed a → ∀ j ∈ Region.ready .any ops listed, n ≤ j) (f : Nat) :
    ∀ (listed : Array Bool) (a : Act), HeadInv .any ops n listed → (∀ j oj, ops[j]? = some oj → j ≠ i → listed.getD j true = false → (∀ e ∈ oj.after, Region.binds .any e = true → e.on ≠ i) → oi.apart ops oj = true) →
      i ∈ Region.ready .any ops listed → YieldsAt P ops w oi v a → wpAnyL P .any ops w n L f (listed.setIfInBounds i true) (a.put oi.dst v) → wpAnyL P .any ops w n L (f + 1) listed a := by
  induction f with
  | zero =>
    intro listed a inv _ hr hy H
    refine ⟨fun h => (by rw [h] at hr; cases hr), fun j hj => ?_⟩
    have hjn := head_first hB inv hin (mem_ready.1 hr).1 hj
    refine ⟨hjn, ?_⟩
    by_cases e : j = i
    · subst e; exact hy.stOp hi H
    · exact absurd (hL _ _ H j (ready_mono hj e)) (by omega)
  | succ f ih =>
    intro listed a inv hfree hr hy H
    have hun := (mem_ready.1 hr).1
    refine ⟨fun h => (by rw [h] at hr; cases hr), fun j hj => ?_⟩
    have hjn := head_first hB inv hin hun hj
    refine ⟨hjn, ?_⟩
    by_cases e : j = i
    · subst e; exact hy.stOp hi H
    · obtain ⟨hju, oj, hoj, hall⟩ := mem_ready.1 hj
      have hno : ∀ e ∈ oj.after, Region.binds .any e = true → e.on ≠ i := fun e' he hb heq => by
        have := hall e' he hb
        rw [heq, getD_both hun] at this
        cases this
      have hput := stOp_put hoj (hfree j oj hoj e hju hno) (fun cs b => hsel i oi cs b hi) (fun cs b => hsel j oj cs b hoj) hy (H.2 j (ready_mono hj e)).2
      refine stOp_mono (fun a' h3 => ih _ a' (inv.set hj hjn) (fun k ok hk hki hku => hfree k ok hk hki ?_) (ready_mono hr (Ne.symm e)) h3.1 ?_) hput
      · by_cases hjk : j = k
        · subst hjk; exact hju
        · rw [getD_set_ne true hjk] at hku; exact hku
      · rw [Array.setIfInBounds_comm _ _ e]; exact h3.2

def listedTo (m : Nat) : Nat → Array Bool
  | 0 => Array.replicate m false
  | k + 1 => (listedTo m k).setIfInBounds k true

/-- each of the reads may come up in the order of the text; behind them only what stands behind -/
def readsB (ops : Array Oper) (n : Nat) : Bool :=
  Region.noSelect ops && decide (n < ops.size) && headB ops n && ((List.range n).all fun k => (Region.ready .any ops (listedTo ops.size k)).contains k && Region.free .any ops (listedTo ops.size k) k) && (Region.ready .any ops (listedTo ops.size n)).all fun j => decide (n ≤ j)

theorem reads_lex {n : Nat} {Lq : Act → Prop} (hB : readsB ops n = true) : ∀ (l : List Oper) (k : Nat) (a : Act), (∀ j, j < l.length → l[j]? = ops[k + j]?) → k + l.length = n → HeadInv .any ops n (listedTo ops.size k) → wpStill P ops w Lq l a →
    wpAnyL P .any ops w n (fun listed' a' => listed' = listedTo ops.size n ∧ Lq a') l.length (listedTo ops.size k) a
  | [], k, a, _, hk, _, h => by
    have : k = n := by simpa using hk
    subst this
    exact ⟨rfl, h⟩
  | o :: l, k, a, hl, hk, inv, h => by
    have hB' := hB
    simp only [readsB, Bool.and_eq_true, decide_eq_true_eq] at hB'
    obtain ⟨⟨⟨⟨hsel, hn⟩, hh⟩, hr⟩, hlast⟩ := hB'
    have hkn : k < n := by simp only [List.length_cons] at hk; omega
    have h0 : ops[k]? = some o := by simpa using (hl 0 (by simp)).symm
    have hrk := List.all_eq_true.1 hr k (List.mem_range.2 hkn)
    simp only [Bool.and_eq_true] at hrk
    have hr' : k ∈ Region.ready .any ops (listedTo ops.size k) := by simpa using hrk.1
    have hst : stOp P ops w k (wpStill P ops w Lq l) a := by unfold stOp; simp only [h0]; exact h
    obtain ⟨v, hy, hK⟩ := yieldsAt_of_stOp h0 hst
    refine reads_first h0 (Region.noSelect_spec hsel) hh hkn (fun listed' a' hL => ?_) l.length _ a inv (Region.free_spec h0 hrk.2) hr' hy ?_
    · rw [hL.1]
      intro j hj
      have := List.all_eq_true.1 hlast j hj
      simpa using this
    · exact reads_lex hB l (k + 1) _ (fun j hj => by have := hl (j + 1) (by simp; omega); simpa [Nat.add_assoc, Nat.add_comm 1 j] using this) (by simp only [List.length_cons] at hk; omega) (inv.set hr' hkn) hK

/-- a region that draws: the first n operations read, in whatever order; all others wait for them -/
theorem region_reads {id : Nat} {Q : Exit → Act → World → Prop} {a : Act} {l : List Oper} (n : Nat) (hm : P.follows .mixedOrders = true) (hB : readsB l.toArray n = true)
    (h : wpStill P l.toArray w.drew (fun a' => wpAny P .any l.toArray Q (l.toArray.size - n) (listedTo l.toArray.size n) a' w.drew) (l.take n) a) : (Code.region id l.toArray true).wp P Q a w := by
  have hB' := hB
  simp only [readsB, Bool.and_eq_true, decide_eq_true_eq] at hB'
  have hn : n < l.length := by simpa using hB'.1.1.1.2
  have htl : (l.take n).length = n := by simp; omega
  have inv0 : HeadInv .any l.toArray n (listedTo l.toArray.size 0) :=
    ⟨by simp [listedTo], fun j oj _ hl => (by rw [listedTo, getD_replicate_false] at hl; cases hl), fun t _ ht => getD_in (by simpa [listedTo] using ht) (getD_replicate_false _ _)⟩
  have H := reads_lex hB (l.take n) 0 a (fun j hj => by
    have hj' : j < n := by rw [htl] at hj; exact hj
    simp [hj']) (by simpa using htl) inv0 h
  refine wp_region_any hm ?_
  have := wpAny_of_head (Q' := Q) (g := l.toArray.size - n) (fun listed a' hL => by rw [hL.1]; exact hL.2) _ _ _ H
  have hs : n < l.toArray.size := by simpa using hn
  rw [htl, Nat.add_sub_cancel' (Nat.le_of_lt hs)] at this
  exact this
end
end Go.Proofs.YtdfafhclhfijnaaGreatDoor
