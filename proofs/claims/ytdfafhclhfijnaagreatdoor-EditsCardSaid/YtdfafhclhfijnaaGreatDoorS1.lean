import Derived.Test.YtdfafhclhfijnaaGreatDoorQ4
import Derived.Test.YtdfafhclhfijnaaGreatDoorR6
namespace Go.Proofs.YtdfafhclhfijnaaGreatDoor
open Go.RowKit Go.Maps Go.Shelf

def upd {α : Type} (f : Nat → α) (i : Nat) (x : α) : Nat → α := fun j => if j = i then x else f j
theorem upd_same {α : Type} (f : Nat → α) (i : Nat) (x : α) : upd f i x i = x := by simp [upd]
theorem upd_other {α : Type} (f : Nat → α) {i j : Nat} (x : α) (h : j ≠ i) : upd f i x j = f j := by simp [upd, h]

def ptrs (f : Nat → Nat) (N : Nat) : List Value := (List.range N).map fun i => .pointer (some ⟨f i, 0, none⟩)
theorem ptrs_len (f : Nat → Nat) (N : Nat) : (ptrs f N).length = N := by simp [ptrs]
theorem ptrs_succ (f : Nat → Nat) (N : Nat) : ptrs f (N + 1) = ptrs f N ++ [.pointer (some ⟨f N, 0, none⟩)] := by simp [ptrs, List.range_succ]
theorem ptrs_congr {f g : Nat → Nat} {N : Nat} (h : ∀ i, i < N → f i = g i) : ptrs f N = ptrs g N := by
  unfold ptrs
  refine List.map_congr_left fun i hi => ?_
  rw [h i (List.mem_range.1 hi)]
theorem ptrs_get (f : Nat → Nat) {N i : Nat} (h : i < N) : (ptrs f N)[i]? = some (.pointer (some ⟨f i, 0, none⟩)) := by simp [ptrs, h]
theorem ptrs_one (f : Nat → Nat) (N : Nat) : ∀ u ∈ ptrs f N, u.oneCell' = true := by
  intro u hu
  obtain ⟨i, _, rfl⟩ := List.mem_map.1 hu
  rfl

/-- cells, but for those of the types S, lie as they lay -/
structure KeepCells (S : List TypeId) (w w' : World) : Prop where
  size : w.heap.size ≤ w'.heap.size
  same : ∀ (k : Nat) (cs : Array Value) (t : TypeId) (f : Nat × Nat), w.heap[k]? = some (.cells cs t f) → t ∉ S → w'.heap[k]? = w.heap[k]?
/-- whatever is no cells, too -/
structure KeepTy (S : List TypeId) (w w' : World) : Prop where
  size : w.heap.size ≤ w'.heap.size
  same : ∀ k, k < w.heap.size → (∀ (cs : Array Value) (t : TypeId) (f : Nat × Nat), w.heap[k]? = some (.cells cs t f) → t ∉ S) → w'.heap[k]? = w.heap[k]?
theorem KeepTy.cells {S : List TypeId} {w w' : World} (h : KeepTy S w w') : KeepCells S w w' :=
  ⟨h.size, fun k cs t f hk ht => h.same k (Array.getElem?_eq_some_iff.1 hk).1 (fun cs' t' f' h' => by rw [hk] at h'; cases h'; exact ht)⟩
theorem KeepCells.of_below {S : List TypeId} {w w' : World} (h : Below w.heap.size w w') : KeepCells S w w' :=
  ⟨h.size, fun k _ _ _ hk _ => h.block k (Array.getElem?_eq_some_iff.1 hk).1⟩
theorem KeepTy.of_below {S : List TypeId} {w w' : World} (h : Below w.heap.size w w') : KeepTy S w w' := ⟨h.size, fun k hk _ => h.block k hk⟩
theorem KeepCells.trans {S S' : List TypeId} {a b c : World} (h : KeepCells S a b) (k : KeepCells S' b c) : KeepCells (S ++ S') a c :=
  ⟨Nat.le_trans h.size k.size, fun i cs t f hi ht => by
    have h1 := h.same i cs t f hi (fun e => ht (List.mem_append_left _ e))
    exact (k.same i cs t f (h1.trans hi) (fun e => ht (List.mem_append_right _ e))).trans h1⟩
theorem KeepTy.trans {S S' : List TypeId} {a b c : World} (h : KeepTy S a b) (k : KeepTy S' b c) : KeepTy (S ++ S') a c :=
  ⟨Nat.le_trans h.size k.size, fun i hi ht => by
    have h1 := h.same i hi (fun cs t f e hm => ht cs t f e (List.mem_append_left _ hm))
    refine (k.same i (Nat.lt_of_lt_of_le hi h.size) (fun cs t f e hm => ?_)).trans h1
    rw [h1] at e
    exact ht cs t f e (List.mem_append_right _ hm)⟩
theorem KeepCells.of_eff {w w' : World} {r r' : RD} {n : Nat} (hr : Rep w r n) (h : Eff w w' r r') : KeepCells [108] w w' :=
  ⟨h.size, fun k cs t f hk ht => h.block k (Array.getElem?_eq_some_iff.1 hk).1 (fun e => by
    obtain ⟨cs', hcs'⟩ := hr.kind
    rw [e, hcs'] at hk; cases hk
    exact ht (by simp)) (fun hf => foot_no_cells hr hf _ _ _ hk)⟩

theorem row_keep {w w' : World} {base : Nat} {e : TypeId} {size : Nat} {v : Value} {n : Nat} {xs : List Value} {S : List TypeId} (h : w.ownsRow base e size v n xs) (hk : KeepCells S w w') (he : e ∉ S) : w'.ownsRow base e size v n xs := by
  refine ⟨h.1, ?_⟩
  rcases h.2 with h0 | ⟨g, cap, cur, q1, q2, q3, q4⟩
  · exact .inl h0
  · exact .inr ⟨g, cap, cur, q1, q2, (hk.same g _ _ _ q3 he).trans q3, q4⟩

/-- plain's world, and the replicas that it holds -/
structure PSt (base : Nat) (w : World) (pw N : Nat) (rs : Nat → RD) (n : Nat) : Prop where
  pwb : base ≤ pw
  hb : base ≤ w.heap.size
  plain : ∃ pa pc, w.heap[pw]? = some (.cells #[.slice pa N pc] 30 (0, 0)) ∧ w.ownsRow base 67 1 (.slice pa N pc) N (ptrs (fun i => (rs i).p) N)
  reps : ∀ i, i < N → Rep w (rs i) n
  repb : ∀ i, i < N → base ≤ (rs i).p ∧ ∀ k, (rs i).foot k → base ≤ k
  disj : ∀ i j, i < N → j < N → i ≠ j → (rs i).p ≠ (rs j).p ∧ ∀ k, (rs i).foot k → ¬ (rs j).foot k

/-- the law's world, and what it knows of each replica -/
structure LSt (base : Nat) (w : World) (lw pw N : Nat) (os : Nat → Nat) (ids : Nat → Int) (ls : Nat → List Reg) : Prop where
  lwb : base ≤ lw
  hb : base ≤ w.heap.size
  law : ∃ la lc, w.heap[lw]? = some (.cells #[.pointer (some ⟨pw, 0, none⟩), .slice la N lc] 33 (0, 0)) ∧ w.ownsRow base 39 1 (.slice la N lc) N (ptrs os N)
  ones : ∀ i, i < N → base ≤ os i ∧ ∃ bv, w.heap[os i]? = some (.cells #[.int .i64 (ids i), bv, .slice none 0 0, .slice none 0 0] 42 (0, 0)) ∧ Bk 57 w bv (ls i)
  dist : ∀ i j, i < N → j < N → i ≠ j → os i ≠ os j

theorem PSt.keep {base : Nat} {w w' : World} {pw N : Nat} {rs : Nat → RD} {n n' : Nat} {S : List TypeId} (h : PSt base w pw N rs n) (hn : n ≤ n') (hk : KeepTy S w w') (h1 : 30 ∉ S) (h2 : 67 ∉ S) (h3 : 108 ∉ S) : PSt base w' pw N rs n' where
  pwb := h.pwb
  hb := Nat.le_trans h.hb hk.size
  plain := by
    obtain ⟨pa, pc, a, b⟩ := h.plain
    exact ⟨pa, pc, (hk.cells.same _ _ _ _ a h1).trans a, row_keep b hk.cells h2⟩
  reps := fun i hi => by
    have hr := h.reps i hi
    obtain ⟨cs, hcs⟩ := hr.kind
    refine hr.keep hn (hk.cells.same _ _ _ _ hcs h3) (fun k hf => hk.same k (foot_lt hr hf) (fun cs t f e => absurd e (foot_no_cells hr hf cs t f)))
  repb := h.repb
  disj := h.disj

theorem LSt.keep {base : Nat} {w w' : World} {lw pw N : Nat} {os : Nat → Nat} {ids : Nat → Int} {ls : Nat → List Reg} {S : List TypeId} (h : LSt base w lw pw N os ids ls) (hk : KeepCells S w w') (h1 : 33 ∉ S) (h2 : 39 ∉ S) (h3 : 42 ∉ S) (h4 : 57 ∉ S) : LSt base w' lw pw N os ids ls where
  lwb := h.lwb
  hb := Nat.le_trans h.hb hk.size
  law := by
    obtain ⟨pa, pc, a, b⟩ := h.law
    exact ⟨pa, pc, (hk.same _ _ _ _ a h1).trans a, row_keep b hk h2⟩
  ones := fun i hi => by
    obtain ⟨a, bv, b, c⟩ := h.ones i hi
    exact ⟨a, bv, (hk.same _ _ _ _ b h3).trans b, row_keep c hk h4⟩
  dist := h.dist

/-- a replica was written into -/
theorem PSt.eff {base : Nat} {w w' : World} {pw N : Nat} {rs : Nat → RD} {n n' i : Nat} {r' : RD} (h : PSt base w pw N rs n) (hn : n ≤ n') (hi : i < N) (hE : Eff w w' (rs i) r') (hR : Rep w' r' n') : PSt base w' pw N (upd rs i r') n' where
  pwb := h.pwb
  hb := Nat.le_trans h.hb hE.size
  plain := by
    have hk := KeepCells.of_eff (h.reps i hi) hE
    obtain ⟨pa, pc, a, b⟩ := h.plain
    refine ⟨pa, pc, (hk.same _ _ _ _ a (by decide)).trans a, ?_⟩
    have := row_keep b hk (by decide)
    rw [ptrs_congr (g := fun j => (upd rs i r' j).p) (fun j hj => ?_)] at this
    · exact this
    · by_cases e : j = i
      · subst e; rw [upd_same, hE.hp]
      · rw [upd_other _ _ e]
  reps := fun j hj => by
    by_cases e : j = i
    · subst e; rw [upd_same]; exact hR
    · rw [upd_other _ _ e]
      obtain ⟨d1, d2⟩ := h.disj i j hi hj (fun e' => e e'.symm)
      have hri := h.reps i hi
      have hrj := h.reps j hj
      refine hrj.keep hn (hE.block _ hrj.lt (fun e' => d1 e'.symm) (fun hf => ?_)) (fun k hk => hE.block k (foot_lt hrj hk) (fun e' => ?_) (fun hf => d2 k hf hk))
      · obtain ⟨cs, hcs⟩ := hrj.kind
        exact foot_no_cells hri hf _ _ _ hcs
      · obtain ⟨cs, hcs⟩ := hri.kind
        exact foot_no_cells hrj (e' ▸ hk) _ _ _ hcs
  repb := fun j hj => by
    by_cases e : j = i
    · subst e
      rw [upd_same, hE.hp]
      exact ⟨(h.repb j hj).1, fun k hk => by
        rcases hE.foot k hk with h1 | h1
        · exact (h.repb j hj).2 k h1
        · exact Nat.le_trans h.hb h1⟩
    · rw [upd_other _ _ e]; exact h.repb j hj
  disj := fun a b ha hb hab => by
    by_cases ea : a = i
    · subst ea
      rw [upd_same, upd_other _ _ (fun e => hab e.symm), hE.hp]
      obtain ⟨d1, d2⟩ := h.disj a b ha hb hab
      refine ⟨d1, fun k hk hf => ?_⟩
      rcases hE.foot k hk with h1 | h1
      · exact d2 k h1 hf
      · have := foot_lt (h.reps b hb) hf; omega
    · rw [upd_other _ _ ea]
      by_cases eb : b = i
      · subst eb
        rw [upd_same, hE.hp]
        obtain ⟨d1, d2⟩ := h.disj a b ha hb hab
        refine ⟨d1, fun k hk hf => ?_⟩
        rcases hE.foot k hf with h1 | h1
        · exact d2 k hk h1
        · have := foot_lt (h.reps a ha) hk; omega
      · rw [upd_other _ _ eb]; exact h.disj a b ha hb hab

theorem PSt.at {base : Nat} {w : World} {pw N : Nat} {rs : Nat → RD} {n i : Nat} (h : PSt base w pw N rs n) (hi : i < N) (hN : N ≤ 100000) : ∃ g cap, AtI w pw g i N cap (rs i).p := by
  obtain ⟨pa, pc, a, b⟩ := h.plain
  rcases b.2 with ⟨h0, h1⟩ | ⟨g, cap, cur, q1, q2, q3, q4⟩
  · omega
  · cases q1
    refine ⟨g, pc, ⟨by simp [World.cell?, a], hi, hN, ?_⟩⟩
    have := b.cellAt i (by omega)
    rw [this, ptrs_get _ hi]

theorem low_eff {base : Nat} {w w' : World} {pw N : Nat} {rs : Nat → RD} {n i : Nat} {r' : RD} (h : PSt base w pw N rs n) (hi : i < N) (hE : Eff w w' (rs i) r') : Below base w w' :=
  ⟨hE.os, hE.tape, hE.output, hE.size, fun k hk => hE.block k (Nat.lt_of_lt_of_le hk h.hb) (fun e => by have := (h.repb i hi).1; omega) (fun hf => by have := (h.repb i hi).2 k hf; omega)⟩
end Go.Proofs.YtdfafhclhfijnaaGreatDoor
