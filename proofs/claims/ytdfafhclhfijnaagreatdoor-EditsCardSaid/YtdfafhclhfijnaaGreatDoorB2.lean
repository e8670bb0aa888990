import Derived.Test.YtdfafhclhfijnaaGreatDoorB1
import Derived.Test.YtdfafhclhfijnaaGreatDoorC1
import Derived.Maps.RangeWalk
import Derived.Maps.OwnSet
import Derived.StringKeys
namespace Go.Proofs.YtdfafhclhfijnaaGreatDoor
open Go.RowKit Go.Maps
open Go.ChangeMaps (setBlock heap_setBlock_same heap_setBlock_other)

/-- the key that a text is -/
def keyL (s : ByteArray) : Lit := .string s.data.toList
theorem keyL_inj {s t : ByteArray} (h : keyL s = keyL t) : s = t := by
  unfold keyL at h
  injection h with h
  cases s; cases t
  congr
  exact Array.toList_inj.1 h
theorem keyL_ok (s : ByteArray) : WideAt.IsKeyLit (keyL s) := by simp [keyL, WideAt.IsKeyLit]
theorem strLaw : Keyed Tryz.prog 9 := string_keyed Tryz.underlying9
theorem keyOf_s {s : ByteArray} (hs : s.size ≤ maxLen) : keyOf Tryz.prog 9 (.string s) = some (keyL s) := WideMaps.keyOf_string_mk Tryz.underlying9 hs

/-- how an element of the outer map reads: the inner map's block -/
def Rout : Value → Option (DataW Unit × List MemPlace)
  | .map (some b) => some (.lit (.int .i64 b), [])
  | _ => none
def blockD (b : Nat) : DataW Unit := .lit (.int .i64 b)
theorem Rout_mk (b : Nat) : Rout (.map (some b)) = some (blockD b, []) := rfl
theorem Rout_inv {v : Value} {b : Nat} {ps : List MemPlace} (h : Rout v = some (blockD b, ps)) : v = .map (some b) := by
  unfold Rout at h
  split at h
  · simp only [Option.some.injEq, Prod.mk.injEq, blockD, DataW.lit.injEq, Lit.int.injEq, true_and] at h
    have := h.1
    rw [Int.ofNat_inj.1 this]
  · cases h
theorem Rout_form {v : Value} {y : DataW Unit × List MemPlace} (h : Rout v = some y) : ∃ b : Nat, v = .map (some b) ∧ y = (blockD b, []) := by
  unfold Rout at h
  split at h
  · rename_i b
    exact ⟨b, rfl, by cases h; rfl⟩
  · cases h

/-- how an element of an inner map reads: the register -/
def regD (x : Reg) : DataW Unit := .agg [.lit (.string x.n.data.toList), .lit (.string x.f.data.toList), .lit (.int .i64 x.c), .lit (.int .i64 x.r), .lit (.string x.v.data.toList)]
def regV (x : Reg) : Value := .agg #[.string x.n, .string x.f, .int .i64 x.c, .int .i64 x.r, .string x.v]
def Rin : Value → Option (DataW Unit × List MemPlace)
  | .agg cs => match cs.toList with
    | [.string n, .string f, .int .i64 c, .int .i64 r, .string v] => some (regD ⟨n, f, c, r, v⟩, [])
    | _ => none
  | _ => none
theorem Rin_mk (x : Reg) : Rin (regV x) = some (regD x, []) := rfl
theorem bytes_inj {a b : ByteArray} (h : a.data.toList = b.data.toList) : a = b := by
  cases a; cases b
  congr
  exact Array.toList_inj.1 h
theorem regD_inj {x y : Reg} (h : regD x = regD y) : x = y := by
  unfold regD at h
  simp only [DataW.agg.injEq, List.cons.injEq, DataW.lit.injEq, Lit.string.injEq, Lit.int.injEq, true_and, and_true] at h
  obtain ⟨h1, h2, h3, h4, h5⟩ := h
  cases x; cases y
  simp only at h1 h2 h3 h4 h5
  rw [bytes_inj h1, bytes_inj h2, h3, h4, bytes_inj h5]
theorem Rin_form {v : Value} {y : DataW Unit × List MemPlace} (h : Rin v = some y) : ∃ x : Reg, v = regV x ∧ y = (regD x, []) := by
  unfold Rin at h
  split at h
  · rename_i cs
    split at h
    · rename_i n f c r v' hc
      refine ⟨⟨n, f, c, r, v'⟩, ?_, by cases h; rfl⟩
      have : cs = #[.string n, .string f, .int .i64 c, .int .i64 r, .string v'] := by
        rw [← hc]
      rw [this]; rfl
    · cases h
  · cases h
theorem Rin_inv {v : Value} {x : Reg} {ps : List MemPlace} (h : Rin v = some (regD x, ps)) : v = regV x := by
  obtain ⟨y, hv, hy⟩ := Rin_form h
  simp only [Prod.mk.injEq] at hy
  rw [hv, regD_inj hy.1]

/-- block b is a map that holds just what m tells -/
def MapIs (R : Value → Option (DataW Unit × List MemPlace)) (w : World) (b : Nat) (m : ByteArray → Option (DataW Unit)) (n : Nat) : Prop :=
  ∃ D, w.ownsMap Tryz.prog 9 R b n D ∧ (∀ s, Maps.has D (keyL s) = (m s).isSome) ∧ ∀ s d, m s = some d → ∀ z, D.atKey (keyL s) z = d

theorem MapIs.lt {R : Value → Option (DataW Unit × List MemPlace)} {w : World} {b n : Nat} {m : ByteArray → Option (DataW Unit)} (h : MapIs R w b m n) : b < w.heap.size := by
  obtain ⟨D, h, _⟩ := h
  exact h.lt
theorem MapIs.block {R : Value → Option (DataW Unit × List MemPlace)} {w w' : World} {b n : Nat} {m : ByteArray → Option (DataW Unit)} (h : MapIs R w b m n) (hb : w'.heap[b]? = w.heap[b]?) : MapIs R w' b m n := by
  obtain ⟨D, ⟨es, clock, h1, h2⟩, h3⟩ := h
  exact ⟨D, ⟨es, clock, hb.trans h1, h2⟩, h3⟩
theorem MapIs.mono {R : Value → Option (DataW Unit × List MemPlace)} {w : World} {b n n' : Nat} {m : ByteArray → Option (DataW Unit)} (h : MapIs R w b m n) (hn : n ≤ n') : MapIs R w b m n' := by
  obtain ⟨D, h1, h2⟩ := h
  exact ⟨D, h1.mono hn, h2⟩
theorem MapIs.congr {R : Value → Option (DataW Unit × List MemPlace)} {w : World} {b n : Nat} {m m' : ByteArray → Option (DataW Unit)} (h : MapIs R w b m n) (hm : ∀ s, m s = m' s) : MapIs R w b m' n := by
  have : m = m' := funext hm
  rw [← this]; exact h

/-- 'm[k]' at a key that is there -/
theorem MapIs.hit {R : Value → Option (DataW Unit × List MemPlace)} {w : World} {b n : Nat} {m : ByteArray → Option (DataW Unit)} (h : MapIs R w b m n) {t e : TypeId} (ht : Tryz.prog.underlying t = some (.map 9 e))
    {z : Value} (hz : (zeroValue e).run Tryz.prog w = .ok z w) {s : ByteArray} (hs : s.size ≤ maxLen) {d : DataW Unit} (hm : m s = some d) (c : Bool) :
    ∃ v ps, (Instr.lookup t (.map (some b)) (.string s) c).run Tryz.prog w = .ok (if c then .tuple #[v, .bool true] else v) w ∧ R v = some (d, ps) := by
  obtain ⟨D, ⟨es, clock, h1, F, _, rfl⟩, h2, h3⟩ := h
  rcases Maps.fit_look c strLaw ht hz h1 F (keyOf_s hs) with ⟨_, _, hat⟩ | ⟨e0, y, _, _, hrun, hRv, hat, _⟩
  · have a := h2 s
    rw [Maps.has_false_of_atKey hat, hm] at a
    cases a
  · refine ⟨e0.val, y.2, hrun, ?_⟩
    have a := h3 s d hm y.1
    rw [hat y.1] at a
    rw [hRv, ← a]
/-- 'm[k]' at a key that is not there -/
theorem MapIs.miss {R : Value → Option (DataW Unit × List MemPlace)} {w : World} {b n : Nat} {m : ByteArray → Option (DataW Unit)} (h : MapIs R w b m n) {t e : TypeId} (ht : Tryz.prog.underlying t = some (.map 9 e))
    {z : Value} (hz : (zeroValue e).run Tryz.prog w = .ok z w) {s : ByteArray} (hs : s.size ≤ maxLen) (hm : m s = none) (c : Bool) :
    (Instr.lookup t (.map (some b)) (.string s) c).run Tryz.prog w = .ok (if c then .tuple #[z, .bool false] else z) w := by
  obtain ⟨D, ⟨es, clock, h1, F, _, rfl⟩, h2, h3⟩ := h
  rcases Maps.fit_look c strLaw ht hz h1 F (keyOf_s hs) with ⟨hrun, _⟩ | ⟨e0, y, _, _, hrun, hRv, hat, _⟩
  · exact hrun
  · have a := h2 s
    rw [Maps.has_true_of_atKey hat, hm] at a
    cases a
/-- 'm[k] = v' -/
theorem MapIs.put {R : Value → Option (DataW Unit × List MemPlace)} {w : World} {b n : Nat} {m : ByteArray → Option (DataW Unit)} (h : MapIs R w b m n) {t e : TypeId} (ht : Tryz.prog.underlying t = some (.map 9 e))
    (hn : n < 1000000) {s : ByteArray} (hs : s.size ≤ maxLen) {v : Value} {d : DataW Unit} {ps : List MemPlace} (hv : R v = some (d, ps)) :
    ∃ w', (Instr.mapUpdate t (.map (some b)) (.string s) v).run Tryz.prog w = .ok () w' ∧ MapIs R w' b (fun q => if q = s then some d else m q) (n + 1) ∧ w.grownBy w' (some b) ∧ w'.heap.size = w.heap.size := by
  obtain ⟨D, h1, h2, h3⟩ := h
  have him := h1.isMap
  obtain ⟨w', hrun, hown, hg⟩ := h1.store strLaw ht (by unfold maxLen; omega) (keyOf_s hs) hv
  have hg2 := hg.grown
  obtain ⟨es, clock, es', clock', _, he⟩ := hg
  refine ⟨w', hrun, ⟨_, hown, ?_, ?_⟩, hg2, by rw [he]; simp [setBlock]⟩
  · intro q
    by_cases hq : q = s
    · subst hq
      rw [has_put_same him (keyL_ok _)]; simp
    · rw [has_put_other (fun e => hq (keyL_inj e))]; simp [hq, h2]
  · intro q d' hd z
    by_cases hq : q = s
    · subst hq
      simp only [if_true, Option.some.injEq] at hd
      rw [atKey_put_same him (keyL_ok _), hd]
    · simp only [if_neg hq] at hd
      rw [atKey_put_other (fun e => hq (keyL_inj e))]
      exact h3 q d' hd z
/-- 'make(map..)' -/
theorem MapIs_made (R : Value → Option (DataW Unit × List MemPlace)) (w : World) : MapIs R (w.alloc (.map #[] 0)) w.heap.size (fun _ => none) 0 :=
  ⟨_, World.ownsMap_made w _ _ _, fun s => rfl, fun s d h => by cases h⟩

/-! ### a book in memory -/
def hasN (l : List Reg) (s : ByteArray) : Bool := l.any (fun y => eqS y.n s)
theorem hasN_iff {l : List Reg} {s : ByteArray} : hasN l s = true ↔ ∃ y ∈ l, y.n = s := by
  simp [hasN, eqS_iff]
def innerM (l : List Reg) (s : ByteArray) : ByteArray → Option (DataW Unit) := fun f => (getR l s f).map regD
def outerM (l : List Reg) (nb : ByteArray → Nat) : ByteArray → Option (DataW Unit) := fun s => if hasN l s then some (blockD (nb s)) else none
/-- the maps behind a book that is not nil -/
def Maps2 (w : World) (M : Nat) (nb : ByteArray → Nat) (l : List Reg) (n : Nat) : Prop :=
  MapIs Rout w M (outerM l nb) n ∧ (∀ s, hasN l s = true → MapIs Rin w (nb s) (innerM l s) n ∧ nb s ≠ M) ∧ ∀ s t, hasN l s = true → hasN l t = true → nb s = nb t → s = t
def BookAt (w : World) (v : Value) (M : Nat) (nb : ByteArray → Nat) (l : List Reg) (n : Nat) : Prop := (v = .map none ∧ l = []) ∨ (v = .map (some M) ∧ Maps2 w M nb l n)
def footB (M : Nat) (nb : ByteArray → Nat) (l : List Reg) (k : Nat) : Prop := k = M ∨ ∃ s, hasN l s = true ∧ k = nb s

theorem Maps2.block {w w' : World} {M : Nat} {nb : ByteArray → Nat} {l : List Reg} {n : Nat} (h : Maps2 w M nb l n) (hb : ∀ k, footB M nb l k → w'.heap[k]? = w.heap[k]?) : Maps2 w' M nb l n :=
  ⟨h.1.block (hb _ (.inl rfl)), fun s hs => ⟨(h.2.1 s hs).1.block (hb _ (.inr ⟨s, hs, rfl⟩)), (h.2.1 s hs).2⟩, h.2.2⟩
theorem Maps2.lt {w : World} {M : Nat} {nb : ByteArray → Nat} {l : List Reg} {n : Nat} (h : Maps2 w M nb l n) : ∀ k, footB M nb l k → k < w.heap.size := by
  rintro k (rfl | ⟨s, hs, rfl⟩)
  · exact h.1.lt
  · exact (h.2.1 s hs).1.lt
theorem BookAt.block {w w' : World} {v : Value} {M : Nat} {nb : ByteArray → Nat} {l : List Reg} {n : Nat} (h : BookAt w v M nb l n) (hb : v ≠ .map none → ∀ k, footB M nb l k → w'.heap[k]? = w.heap[k]?) : BookAt w' v M nb l n := by
  rcases h with h | ⟨rfl, h⟩
  · exact .inl h
  · exact .inr ⟨rfl, h.block (hb (by simp))⟩
theorem BookAt.below {w w' : World} {v : Value} {M : Nat} {nb : ByteArray → Nat} {l : List Reg} {n : Nat} (h : BookAt w v M nb l n) (hb : Below w.heap.size w w') : BookAt w' v M nb l n := by
  rcases h with h | ⟨rfl, h⟩
  · exact .inl h
  · exact .inr ⟨rfl, h.block (fun k hk => hb.block k (h.lt k hk))⟩

theorem zeroReg_run (w : World) : (zeroValue 99).run Tryz.prog w = .ok (.agg #[.string ⟨#[]⟩, .string ⟨#[]⟩, .int .i64 0, .int .i64 0, .string ⟨#[]⟩]) w := by kernel_rfl
theorem zeroCon_run (w : World) : (zeroValue 149).run Tryz.prog w = .ok (.map none) w := by kernel_rfl

/-- b.contacts[name]: the inner map, or nil -/
theorem BookAt.contact {w : World} {v : Value} {M : Nat} {nb : ByteArray → Nat} {l : List Reg} {n : Nat} (h : BookAt w v M nb l n) {s : ByteArray} (hs : s.size ≤ maxLen) :
    (Instr.lookup 104 v (.string s) false).run Tryz.prog w = .ok (if hasN l s then .map (some (nb s)) else .map none) w := by
  rcases h with ⟨rfl, rfl⟩ | ⟨rfl, h⟩
  · rw [Maps.look_nil false strLaw Tryz.underlying104 (zeroCon_run w) (keyOf_s hs)]
    rfl
  · cases hh : hasN l s
    · rw [h.1.miss Tryz.underlying104 (zeroCon_run w) hs (by simp [outerM, hh]) false]; rfl
    · obtain ⟨v, ps, hrun, hv⟩ := h.1.hit Tryz.underlying104 (zeroCon_run w) hs (d := blockD (nb s)) (by simp [outerM, hh]) false
      rw [hrun, Rout_inv hv]; rfl

/-- what 'b.contacts[name]' is, and what it holds -/
def conV (l : List Reg) (nb : ByteArray → Nat) (s : ByteArray) : Value := if hasN l s then .map (some (nb s)) else .map none
theorem getR_noName {l : List Reg} {s f : ByteArray} (h : hasN l s = false) : getR l s f = none :=
  getR_none_of (fun z hz e => by
    have : hasN l s = true := hasN_iff.2 ⟨z, hz, e.1⟩
    rw [h] at this; cases this)

/-- contact[field] of such a map, with ok -/
theorem BookAt.reg {w : World} {v : Value} {M : Nat} {nb : ByteArray → Nat} {l : List Reg} {n : Nat} (h : BookAt w v M nb l n) {s f : ByteArray} (hs : f.size ≤ maxLen) :
    (Instr.lookup 149 (conV l nb s) (.string f) true).run Tryz.prog w = .ok (.tuple #[match getR l s f with | some y => regV y | none => .agg #[.string ⟨#[]⟩, .string ⟨#[]⟩, .int .i64 0, .int .i64 0, .string ⟨#[]⟩], .bool (getR l s f).isSome]) w := by
  unfold conV
  cases hh : hasN l s
  · rw [getR_noName hh]
    simp only [Bool.false_eq_true, if_false]
    rw [Maps.look_nil true strLaw Tryz.underlying149 (zeroReg_run w) (keyOf_s hs)]
    rfl
  · simp only [if_true]
    rcases h with ⟨rfl, rfl⟩ | ⟨rfl, h⟩
    · simp [hasN] at hh
    · have hi := (h.2.1 s hh).1
      cases hg : getR l s f with
      | none =>
        rw [hi.miss Tryz.underlying149 (zeroReg_run w) hs (by simp [innerM, hg]) true]; rfl
      | some y =>
        obtain ⟨v, ps, hrun, hv⟩ := hi.hit Tryz.underlying149 (zeroReg_run w) hs (d := regD y) (by simp [innerM, hg]) true
        rw [hrun, Rin_inv hv]; rfl
end Go.Proofs.YtdfafhclhfijnaaGreatDoor
