import Derived.Test.YtdfafhclhfijnaaGreatDoorI7
namespace Go.Proofs.YtdfafhclhfijnaaGreatDoor
open Go.RowKit Go.Maps Go.Shelf Go.Lib Go.Extern

/-- one round of a loop whose record stands ready: behind it the record stands as it stood -/
theorem round_tells {P : Program} {m lp : Nat} {r : Loop} {args : Array Value} {W : World} (h : W.heap[lp]? = some (.loop r)) (hr : r.state = .ready) (hp : r.pending = none) (hs : args.size = r.params.size) (a₁ : Act)
    (hassign : ∀ (K : Act → World → Prop), K a₁ W → r.assign.wpIn (Fence.wide.inRound lp) m P (Exit.then K (fun _ _ _ => False)) { tmps := (r.params.zip args).foldl (fun t (p, v) => t.setIfInBounds p v) r.tmps, defers := [] } W)
    (R : World → Prop) (hbody : r.body.wpIn (Fence.wide.inRound lp) m P (fun e _ W3 => e = .normal ∧ W3.heap[lp]? = some (.loop { r with state := .busy }) ∧ R (W3.putObj lp (.loop r))) a₁ (W.putObj lp (.loop { r with state := .busy }))) :
    YieldAt Fence.wide m P lp args W (fun e W' => e = .returned (.bool true) ∧ R W') := by
  refine ⟨r.fn, _, r.assign, r.body, run_yield h hs, roundIn_of_wpIn trivial (hassign _ ?_)⟩
  refine ⟨_, run_beginRound h hr, wpIn_mono hbody ?_⟩
  rintro e a3 W3 ⟨rfl, h3, hR⟩
  have hE := run_endRound (P := P) none h3
  have e1 : ({ { r with state := .busy } with state := if (none : Option Code).isNone then .ready else .done, pending := none } : Loop) = r := by
    cases r; simp at hr hp; subst hr hp; rfl
  rw [e1] at hE
  exact ⟨_, _, hE, rfl, hR⟩

/-- a loop over an iterator that is itself a loop over one: the rounds leave whatever is no cells as it lay; the iterator tells F -/
theorem range_tells {α : Type} {P : Program} {n : Nat} {g : Operand} {ps : Array Tmp} {assign body : Code} {Q : Exit → Act → World → Prop} {a : Act} {w : World} (h1 : 1 ≤ n) {gf : Nat} {lb : Array Value} (hg : a.eval g = .func (.func gf) #[] lb) (eg : ∀ args w, (callFunc gf args).run P w = .ok (.enter gf args) w)
    {encs : α → Array Value} (hps : ∀ x, (encs x).size = ps.size) (fp : World → Nat → Prop) (hfp : ∀ A B row, w.heap.size ≤ A.heap.size → A.grownBy B row → (∀ r, row = some r → ∃ o : Obj, A.heap[r]? = some o ∧ o.isCells = false) → ∀ k, fp B k → fp A k)
    (I : List α → World → Prop) (hI : OwnFrom w.heap.size I) (h0 : I [] w) (a₁ : α → Act) (F : List α)
    (hassign : ∀ (l m : Nat) (x : α) (W : World) (K : Act → World → Prop), K (a₁ x) W → assign.wpIn (Fence.wide.inRound l) m P (Exit.then K (fun _ _ _ => False)) { tmps := (ps.zip (encs x)).foldl (fun t (p, v) => t.setIfInBounds p v) a.tmps, defers := [] } W)
    (hbody : ∀ (l m : Nat) (pre : List α) (x : α) (W : World), I pre W → pre.length < F.length → body.wpIn (Fence.wide.inRound l) m P (fun e _ W' => e = .normal ∧ KeepsOthers W W' ∧ KeepL fp (w.heap.size + 2) W W' ∧ I (pre ++ [x]) W') (a₁ x) W)
    (hcall : ∀ (J : List α → World → Prop) (W1 : World), Below w.heap.size w W1 → W1.heap.size = w.heap.size + 2 → OwnFrom W1.heap.size J → J [] W1 → (∀ m pre x W, J pre W → pre.length < F.length → YieldAt Fence.wide m P (w.heap.size + 1) (encs x) W (fun e W' => e = .returned (.bool true) ∧ J (pre ++ [x]) W' ∧ KeepL fp W1.heap.size W W' ∧ KeepsFrom W1.heap.size W W')) →
      CallsIn Fence.wide (n - 1) P gf (#[.func (.yield (w.heap.size + 1)) #[] #[]] ++ lb) W1 fun e W' => (∃ v, e = .returned v) ∧ J F W')
    (hdone : ∀ (D : Nat) (W : World), w.heap.size ≤ D → I F W → W.heap[D]? = some (.deferred (some [])) → Q .normal { a with defers := { target := .collected D, args := #[] } :: a.defers } W) :
    (Code.rangeFunc g ps assign body).wpIn Fence.wide n P Q a w := by
  refine wpIn_rangeFunc ?_
  intro fn _
  obtain ⟨r, hrd⟩ : ∃ r : Loop, ({ state := .ready, pending := none, fn, tmps := a.tmps, params := ps, assign, body, defers := w.heap.size } : Loop) = r := ⟨_, rfl⟩
  obtain ⟨W1, hW1⟩ : ∃ W1, (w.alloc (.deferred (some []))).alloc (.loop r) = W1 := ⟨_, rfl⟩
  have hL : W1.heap[w.heap.size + 1]? = some (.loop r) := by
    have := World.alloc_heap_new (w.alloc (.deferred (some []))) (.loop r)
    rw [World.size_alloc, hW1] at this; exact this
  have hD : W1.heap[w.heap.size]? = some (.deferred (some [])) := by
    rw [← hW1, Below.heap_alloc _ _ _ (by simp)]; exact World.alloc_heap_new w _
  have hb1 : Below w.heap.size w W1 := by rw [← hW1]; exact ((Below.refl _ w).alloc (Nat.le_refl _) _).alloc (by simp) _
  have hs1 : W1.heap.size = w.heap.size + 2 := by rw [← hW1]; simp
  have hI1 : I [] W1 := hI _ _ _ none h0 (below_grown hb1) (fun r e => by cases e)
  refine ⟨w.heap.size + 1, [{ target := .collected w.heap.size, args := #[] }], W1, { target := .fn (.func gf) lb, args := #[.func (.yield (w.heap.size + 1)) #[] #[]] }, W1, gf, #[.func (.yield (w.heap.size + 1)) #[] #[]] ++ lb, W1, ?_, ?_, fun _ _ => trivial, ?_, fun _ => h1, ?_⟩
  · rw [← hW1, ← hrd]; exact run_enterLoop_outer _ _ _ _ _
  · simp only [resolve, hg]
    simp [go_sem]
  · simp [invoke, go_sem, eg]
  · have hJo : OwnFrom W1.heap.size (fun pre W => I pre W ∧ W.heap[w.heap.size + 1]? = some (.loop r) ∧ W.heap[w.heap.size]? = some (.deferred (some []))) := fun s A B row hs hg' hr =>
      ⟨hI s A B row hs.1 hg' (fun q e => ⟨by have := (hr q e).1; omega, (hr q e).2⟩),
       (hg'.block _ (Array.getElem?_eq_some_iff.1 hs.2.1).1 (fun e => by have := (hr _ e.symm).1; omega)).trans hs.2.1,
       (hg'.block _ (Array.getElem?_eq_some_iff.1 hs.2.2).1 (fun e => by have := (hr _ e.symm).1; omega)).trans hs.2.2⟩
    refine (hcall _ W1 hb1 hs1 hJo ⟨hI1, hL, hD⟩ ?_).mono ?_
    · rintro m pre x W ⟨hi, hl, hd⟩ hlen
      have hlt := (Array.getElem?_eq_some_iff.1 hl).1
      have hrb : ({ r with state := .busy } : Loop).state = .busy := rfl
      refine round_tells hl (by rw [← hrd]) (by rw [← hrd]) (by rw [← hrd]; exact hps x) (a₁ x) ?_ _ ?_
      · intro K hK
        rw [← hrd]
        exact hassign _ _ x W K hK
      · obtain ⟨X, hX⟩ : ∃ X, W.putObj (w.heap.size + 1) (.loop { r with state := .busy }) = X := ⟨_, rfl⟩
        have hlX : X.heap[w.heap.size + 1]? = some (.loop { r with state := .busy }) := by rw [← hX]; exact World.putObj_heap_same hlt
        have hoX : ∀ k, k ≠ w.heap.size + 1 → X.heap[k]? = W.heap[k]? := fun k hk => by rw [← hX]; exact World.putObj_heap_other hk
        have hgX : W.grownBy X (some (w.heap.size + 1)) := by rw [← hX]; exact grownBy_putObj' _ _ _
        have hiX : I pre X := by rw [← hX]; exact hI.putObj _ hi (by omega) hl rfl
        have hsX : X.heap.size = W.heap.size := by rw [← hX]; simp [World.putObj]
        rw [hX]
        have hb := hbody (w.heap.size + 1) m pre x X hiX hlen
        rw [← hrd] at hlX ⊢
        refine wpIn_mono hb ?_
        rintro e a3 W3 ⟨rfl, hk3, hf3, hi3⟩
        have hl3 := hk3.same _ _ hlX rfl
        have hd3 := hk3.same _ _ ((hoX _ (by omega)).trans hd) rfl
        have hlt3 := (Array.getElem?_eq_some_iff.1 hl3).1
        refine ⟨rfl, hl3, ⟨hI.putObj _ hi3 (by omega) hl3 rfl, World.putObj_heap_same hlt3, (World.putObj_heap_other (by omega)).trans hd3⟩, ⟨?_, ?_, ?_⟩, ⟨?_, ?_⟩⟩
        · have := hf3.1; simp [World.putObj]; omega
        · intro k o hk hnf ho hc
          rw [World.putObj_heap_other (by omega)]
          exact hf3.2.1 k o (by omega) (fun h => hnf (hfp _ _ _ (by omega) hgX (fun q e => by cases e; exact ⟨_, hl, rfl⟩) k h)) ((hoX k (by omega)).trans ho) hc
        · intro k hk
          have h2 := hfp _ _ _ (by have := hf3.1; omega) (grownBy_putObj' W3 (w.heap.size + 1) _) (fun q e => by cases e; exact ⟨_, hl3, rfl⟩) k hk
          rcases hf3.2.2 k h2 with h3 | h3
          · exact .inl (hfp _ _ _ (by omega) hgX (fun q e => by cases e; exact ⟨_, hl, rfl⟩) k h3)
          · exact .inr (by omega)
        · have := hk3.size; simp [World.putObj]; omega
        · intro k o hk ho hc
          rw [World.putObj_heap_other (by omega)]
          exact hk3.same k o ((hoX k (by omega)).trans ho) hc
    · rintro e W2 ⟨⟨v, rfl⟩, hi, hl, hd⟩
      have hE := run_endLoop (P := P) hl (by rw [← hrd]; simp)
      refine ⟨none, _, by rw [hE, ← hrd], hdone _ _ (Nat.le_refl _) (hI.putObj _ hi (by omega) hl rfl) ((World.putObj_heap_other (by omega)).trans hd)⟩
end Go.Proofs.YtdfafhclhfijnaaGreatDoor
