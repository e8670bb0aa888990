import Derived.Test.YtjhlijobdihplaaGreatDoorM09
import Derived.Test.YtjhlijobdihplaaGreatDoorX9
import Derived.Test.YtjhlijobdihplaaGreatDoorM19
namespace Go.Proofs.YtjhlijobdihplaaGreatDoor
open Go.RowKit Go.Maps Go.Shelf Go.Lib Go.Extern

/-- one round of a loop whose record stands ready: behind it the record stands as it stood -/
theorem round_tells2 {P : Program} {m lp : Nat} {r : Loop} {args : Array Value} {W : World} (h : W.heap[lp]? = some (.loop r)) (hr : r.state = .ready) (hp : r.pending = none) (hs : args.size = r.params.size) (A : Act → World → Prop) (hAl : ∀ a₁ W₁, A a₁ W₁ → W₁.heap[lp]? = some (.loop r))
    (hassign : ∀ (K : Act → World → Prop), (∀ a₁ W₁, A a₁ W₁ → K a₁ W₁) → r.assign.wpIn (Fence.wide.inRound lp) m P (Exit.then K (fun _ _ _ => False)) { tmps := (r.params.zip args).foldl (fun t (p, v) => t.setIfInBounds p v) r.tmps, defers := [] } W)
    (R : World → Prop) (hbody : ∀ a₁ W₁, A a₁ W₁ → r.body.wpIn (Fence.wide.inRound lp) m P (fun e _ W3 => e = .normal ∧ W3.heap[lp]? = some (.loop { r with state := .busy }) ∧ R (W3.putObj lp (.loop r))) a₁ (W₁.putObj lp (.loop { r with state := .busy }))) :
    YieldAt Fence.wide m P lp args W (fun e W' => e = .returned (.bool true) ∧ R W') := by
  refine ⟨r.fn, _, r.assign, r.body, run_yield h hs, roundIn_of_wpIn trivial (hassign _ (fun a₁ W₁ hA1 => ?_))⟩
  refine ⟨_, run_beginRound (hAl _ _ hA1) hr, wpIn_mono (hbody _ _ hA1) ?_⟩
  rintro e a3 W3 ⟨rfl, h3, hR⟩
  have hE := run_endRound (P := P) none h3
  have e1 : ({ { r with state := .busy } with state := if (none : Option Code).isNone then .ready else .done, pending := none } : Loop) = r := by
    cases r; simp at hr hp; subst hr hp; rfl
  rw [e1] at hE
  exact ⟨_, _, hE, rfl, hR⟩

/-- a loop over an iterator that is itself a loop over one: the rounds leave whatever is no cells as it lay; the iterator tells F -/
theorem range_tells2 {α : Type} {P : Program} {n : Nat} {g : Operand} {ps : Array Tmp} {assign body : Code} {Q : Exit → Act → World → Prop} {a : Act} {w : World} (h1 : 1 ≤ n) {gf : Nat} {lb : Array Value} (hg : a.eval g = .func (.func gf) #[] lb) (eg : ∀ args w, (callFunc gf args).run P w = .ok (.enter gf args) w)
    {encs : α → Array Value} (hps : ∀ x, (encs x).size = ps.size) (fp : World → Nat → Prop) (hfp : ∀ A B row, w.heap.size ≤ A.heap.size → A.grownBy B row → (∀ r, row = some r → ∃ o : Obj, A.heap[r]? = some o ∧ o.isCells = false) → ∀ k, fp B k → fp A k)
    (I : List α → World → Prop) (hI : OwnFrom w.heap.size I) (h0 : I [] w) (A : α → Act → World → Prop) (ok : α → Prop) (hA : ∀ x a' X Y row, A x a' X → X.grownBy Y row → (∀ r, row = some r → ∃ o : Obj, X.heap[r]? = some o ∧ o.isCells = false) → A x a' Y) (F : List α)
    (hassign : ∀ (l m : Nat) (pre : List α) (x : α) (W : World) (K : Act → World → Prop), I pre W → w.heap.size + 2 ≤ W.heap.size → (∀ a' W', KeepsOthers W W' → KeepL fp (w.heap.size + 2) W W' → I pre W' → A x a' W' → K a' W') → assign.wpIn (Fence.wide.inRound l) m P (Exit.then K (fun _ _ _ => False)) { tmps := (ps.zip (encs x)).foldl (fun t (p, v) => t.setIfInBounds p v) a.tmps, defers := [] } W)
    (hbody : ∀ (l m : Nat) (pre : List α) (x : α) (a' : Act) (W : World), I pre W → A x a' W → w.heap.size + 2 ≤ W.heap.size → pre.length < F.length → ok x → body.wpIn (Fence.wide.inRound l) m P (fun e _ W' => e = .normal ∧ KeepsOthers W W' ∧ KeepL fp (w.heap.size + 2) W W' ∧ I (pre ++ [x]) W') a' W)
    (hcall : ∀ (J : List α → World → Prop) (W1 : World), Below w.heap.size w W1 → W1.heap.size = w.heap.size + 2 → OwnFrom W1.heap.size J → J [] W1 → (∀ m pre x W, J pre W → pre.length < F.length → ok x → YieldAt Fence.wide m P (w.heap.size + 1) (encs x) W (fun e W' => e = .returned (.bool true) ∧ J (pre ++ [x]) W' ∧ KeepL fp W1.heap.size W W' ∧ KeepsFrom W1.heap.size W W')) →
      CallsIn Fence.wide (n - 1) P gf (#[.func (.yield (w.heap.size + 1)) #[] #[]] ++ lb) W1 fun e W' => (∃ v, e = .returned v) ∧ J F W')
    (hdone : ∀ (D : Nat) (W : World), w.heap.size ≤ D → I F W → W.heap[D]? = some (.deferred (some [])) → Q .normal { a with defers := { target := .collected D, args := #[] } :: a.defers } W) :
    (Code.rangeFunc g ps assign body).wpIn Fence.wide n P Q a w := by
  refine wpIn_rangeFunc ?_
  intro fn _
  obtain ⟨r, hrd⟩ : ∃ r : Loop, ({ state := .ready, pending := none, fn, tmps := a.tmps, params := ps, assign, body, defers := w.heap.size } : Loop) = r := ⟨_, rfl⟩
  obtain ⟨W1, hW1⟩ : ∃ W1, (w.alloc (.deferred (some []))).alloc (.loop r) = W1 := ⟨_, rfl⟩
  have hL : W1.heap[w.heap.size + 1]? = some (.loop r) := by
    have := World.alloc_heap_new (w.alloc (.deferred (some []))) (.loop r)
    rw [World.size_alloc, hW1] at this; exact this
  have hD : W1.heap[w.heap.size]? = some (.deferred (some [])) := by
    rw [← hW1, Below.heap_alloc _ _ _ (by simp)]; exact World.alloc_heap_new w _
  have hb1 : Below w.heap.size w W1 := by rw [← hW1]; exact ((Below.refl _ w).alloc (Nat.le_refl _) _).alloc (by simp) _
  have hs1 : W1.heap.size = w.heap.size + 2 := by rw [← hW1]; simp
  have hI1 : I [] W1 := hI _ _ _ none h0 (below_grown hb1) (fun r e => by cases e)
  refine ⟨w.heap.size + 1, [{ target := .collected w.heap.size, args := #[] }], W1, { target := .fn (.func gf) lb, args := #[.func (.yield (w.heap.size + 1)) #[] #[]] }, W1, gf, #[.func (.yield (w.heap.size + 1)) #[] #[]] ++ lb, W1, ?_, ?_, fun _ _ => trivial, ?_, fun _ => h1, ?_⟩
  · rw [← hW1, ← hrd]; exact run_enterLoop_outer _ _ _ _ _
  · simp only [resolve, hg]
    simp [go_sem]
  · simp [invoke, go_sem, eg]
  · have hJo : OwnFrom W1.heap.size (fun pre W => I pre W ∧ W.heap[w.heap.size + 1]? = some (.loop r) ∧ W.heap[w.heap.size]? = some (.deferred (some []))) := fun s A B row hs hg' hr =>
      ⟨hI s A B row hs.1 hg' (fun q e => ⟨by have := (hr q e).1; omega, (hr q e).2⟩),
       (hg'.block _ (Array.getElem?_eq_some_iff.1 hs.2.1).1 (fun e => by have := (hr _ e.symm).1; omega)).trans hs.2.1,
       (hg'.block _ (Array.getElem?_eq_some_iff.1 hs.2.2).1 (fun e => by have := (hr _ e.symm).1; omega)).trans hs.2.2⟩
    refine (hcall _ W1 hb1 hs1 hJo ⟨hI1, hL, hD⟩ ?_).mono ?_
    · rintro m pre x W₀ ⟨hi₀, hl₀, hd₀⟩ hlen hok
      have hlt₀ := (Array.getElem?_eq_some_iff.1 hl₀).1
      refine round_tells2 hl₀ (by rw [← hrd]) (by rw [← hrd]) (by rw [← hrd]; exact hps x) (fun a' W' => KeepsOthers W₀ W' ∧ KeepL fp (w.heap.size + 2) W₀ W' ∧ I pre W' ∧ A x a' W') (fun a₁ W₁ h => h.1.same _ _ hl₀ rfl) ?_ _ ?_
      · intro K hK
        rw [← hrd]
        exact hassign _ _ pre x W₀ K hi₀ (by omega) (fun a' W' q1 q2 q3 q4 => hK a' W' ⟨q1, q2, q3, q4⟩)
      · rintro a' W ⟨hk0, hf0, hi, hAx⟩
        have hl := hk0.same _ _ hl₀ rfl
        have hd := hk0.same _ _ hd₀ rfl
        have hlt := (Array.getElem?_eq_some_iff.1 hl).1
        have hsz0 := hk0.size
        obtain ⟨X, hX⟩ : ∃ X, W.putObj (w.heap.size + 1) (.loop { r with state := .busy }) = X := ⟨_, rfl⟩
        have hlX : X.heap[w.heap.size + 1]? = some (.loop { r with state := .busy }) := by rw [← hX]; exact World.putObj_heap_same hlt
        have hoX : ∀ k, k ≠ w.heap.size + 1 → X.heap[k]? = W.heap[k]? := fun k hk => by rw [← hX]; exact World.putObj_heap_other hk
        have hgX : W.grownBy X (some (w.heap.size + 1)) := by rw [← hX]; exact grownBy_putObj' _ _ _
        have hiX : I pre X := by rw [← hX]; exact hI.putObj _ hi (by omega) hl rfl
        have hAX : A x a' X := hA x a' W X _ hAx hgX (fun q e => by cases e; exact ⟨_, hl, rfl⟩)
        have hsX : X.heap.size = W.heap.size := by rw [← hX]; simp [World.putObj]
        rw [hX]
        have hb := hbody (w.heap.size + 1) m pre x a' X hiX hAX (by omega) hlen hok
        rw [← hrd] at hlX ⊢
        refine wpIn_mono hb ?_
        rintro e a3 W3 ⟨rfl, hk3, hf3, hi3⟩
        have hl3 := hk3.same _ _ hlX rfl
        have hd3 := hk3.same _ _ ((hoX _ (by omega)).trans hd) rfl
        have hlt3 := (Array.getElem?_eq_some_iff.1 hl3).1
        have hKL : KeepL fp W1.heap.size W (W3.putObj (w.heap.size + 1) (.loop { state := .ready, pending := none, fn, tmps := a.tmps, params := ps, assign, body, defers := w.heap.size })) := by
          refine ⟨?_, ?_, ?_⟩
          · have := hf3.1; simp [World.putObj]; omega
          · intro k o hk hnf ho hc
            rw [World.putObj_heap_other (by omega)]
            exact hf3.2.1 k o (by omega) (fun h => hnf (hfp _ _ _ (by omega) hgX (fun q e => by cases e; exact ⟨_, hl, rfl⟩) k h)) ((hoX k (by omega)).trans ho) hc
          · intro k hk
            have h2 := hfp _ _ _ (by have := hf3.1; omega) (grownBy_putObj' W3 (w.heap.size + 1) _) (fun q e => by cases e; exact ⟨_, hl3, rfl⟩) k hk
            rcases hf3.2.2 k h2 with h3 | h3
            · exact .inl (hfp _ _ _ (by omega) hgX (fun q e => by cases e; exact ⟨_, hl, rfl⟩) k h3)
            · exact .inr (by omega)
        refine ⟨rfl, hl3, ⟨hI.putObj _ hi3 (by omega) hl3 rfl, World.putObj_heap_same hlt3, (World.putObj_heap_other (by omega)).trans hd3⟩, KeepL.trans (by rw [hs1]; exact hf0) hKL, ⟨?_, ?_⟩⟩
        · have := hk3.size; simp [World.putObj]; omega
        · intro k o hk ho hc
          rw [World.putObj_heap_other (by omega)]
          exact hk3.same k o ((hoX k (by omega)).trans (hk0.same k o ho hc)) hc
    · rintro e W2 ⟨⟨v, rfl⟩, hi, hl, hd⟩
      have hE := run_endLoop (P := P) hl (by rw [← hrd]; simp)
      refine ⟨none, _, by rw [hE, ← hrd], hdone _ _ (Nat.le_refl _) (hI.putObj _ hi (by omega) hl rfl) ((World.putObj_heap_other (by omega)).trans hd)⟩
end Go.Proofs.YtjhlijobdihplaaGreatDoor
namespace Go.Proofs.YtjhlijobdihplaaGreatDoor
open Go.RowKit Go.Maps Go.Shelf Go.Lib Go.Extern
attribute [local go_sem] Oper.semAt_some

/-- the value that is called, and that its rounds are well -/
def YieldOkR (Yf : Fn) (Yc : Array Value) (J Jx : List Reg → World → Prop) (fp : World → Nat → Prop) (B N : Nat) : Prop :=
  (∃ lp, Yf = .yield lp ∧ Yc = #[] ∧ ∀ m pre x W1, J pre W1 → pre.length < N → YieldAt Fence.wide m Tryz.prog lp #[regV x] W1 (RoundOk J Jx fp B pre x W1)) ∨
  (∃ q0 q1 q2 q3, Yf = .func 71 ∧ Yc = #[.pointer (some q0), .pointer (some q1), .pointer (some q2), .pointer (some q3)] ∧ ∀ pre x W1, J pre W1 → pre.length < N → Calls Tryz.prog 71 #[regV x, .pointer (some q0), .pointer (some q1), .pointer (some q2), .pointer (some q3)] W1 (RoundOk J Jx fp B pre x W1))
/-- function gf, with what it has captured, tells the registers l -/
def TellsR (gf : Nat) (lb : Array Value) (l : List Reg) (W : World) : Prop := ∀ (Yf : Fn) (Yc : Array Value) (m : Nat) (fp : World → Nat → Prop) (J Jx : List Reg → World → Prop), 30 ≤ m → FpOk fp W → OwnFrom W.heap.size J → OwnFrom W.heap.size Jx → J [] W → YieldOkR Yf Yc J Jx fp W.heap.size l.length →
  CallsIn Fence.wide m Tryz.prog gf (#[.func Yf #[] Yc] ++ lb) W fun e W' => (∃ v, e = .returned v) ∧ (J l W' ∨ ∃ k, 0 < k ∧ Jx (l.take k) W')

set_option maxHeartbeats 1000000 in
/-- the second going over: all(func ..) -/
theorem secondR_any (gf : Nat) (lb : Array Value) (Bl Bok : Nat) (F : List Reg) (W2 W3 : World) (hW3 : (W2.alloc (.cells #[.int .i64 0] 3)).alloc (.cells #[.bool false] 4) = W3) (hFl : F.length ≤ 100000) (B : Nat) (hB1 : Bl < B) (hB2 : Bok < B) (hd : Bl ≠ Bok) (hBW : B ≤ W2.heap.size)
    (rv : Value) (hb : Boxed W2 Bl 93 rv) (hrow : W2.ownsRow B 99 5 rv F.length (rowCells F)) (hbo : Boxed W2 Bok 4 (.bool true)) (hT : TellsR gf lb F W3) :
    Calls Tryz.prog gf (#[.func (.func 71) #[] #[.pointer (some ⟨Bok, 0, none⟩), .pointer (some ⟨W2.heap.size + 1, 0, none⟩), .pointer (some ⟨W2.heap.size, 0, none⟩), .pointer (some ⟨Bl, 0, none⟩)]] ++ lb) W3
      fun e W' => (∃ v, e = .returned v) ∧ Boxed W' Bok 4 (.bool true) ∧ W3.heap.size ≤ W'.heap.size ∧ (∀ j, j < W3.heap.size → j ≠ Bok → j ≠ W2.heap.size → j ≠ W2.heap.size + 1 → W'.heap[j]? = W3.heap[j]?) ∧ W'.os = W3.os ∧ W'.tape = W3.tape ∧ W'.output = W3.output := by
  have hsz3 : W3.heap.size = W2.heap.size + 2 := by rw [← hW3]; simp
  have hb3 : ∀ j, j < W2.heap.size → W3.heap[j]? = W2.heap[j]? := fun j hj => by rw [← hW3, Below.heap_alloc _ _ _ (by simp; omega), Below.heap_alloc _ _ _ hj]
  have hk3 : Boxed W3 W2.heap.size 3 (.int .i64 0) := by rw [← hW3]; exact (Boxed.new W2 _ _).alloc _
  have hn3 : Boxed W3 (W2.heap.size + 1) 4 (.bool false) := by
    have := Boxed.new (W2.alloc (.cells #[.int .i64 0] 3)) 4 (.bool false)
    rw [World.size_alloc, hW3] at this; exact this
  have hbok3 : Boxed W3 Bok 4 (.bool true) := (hb3 _ hbo.lt).trans hbo
  refine ((callsIn_wide (n := 30)).1 (hT (.func 71) #[.pointer (some ⟨Bok, 0, none⟩), .pointer (some ⟨W2.heap.size + 1, 0, none⟩), .pointer (some ⟨W2.heap.size, 0, none⟩), .pointer (some ⟨Bl, 0, none⟩)] 30 noFp
    (fun pre W => ((∃ b, Boxed W Bok 4 (.bool b) ∧ (pre = F.take pre.length → b = true)) ∧ Boxed W (W2.heap.size + 1) 4 (.bool false) ∧ Boxed W W2.heap.size 3 (.int .i64 (pre.length : Nat))) ∧ W3.heap.size ≤ W.heap.size ∧ (∀ j, j < W3.heap.size → j ≠ Bok → j ≠ W2.heap.size → j ≠ W2.heap.size + 1 → W.heap[j]? = W3.heap[j]?) ∧ W.os = W3.os ∧ W.tape = W3.tape ∧ W.output = W3.output)
    (fun pre W => (∃ b, Boxed W Bok 4 (.bool b) ∧ (pre = F.take pre.length → b = true)) ∧ W3.heap.size ≤ W.heap.size ∧ (∀ j, j < W3.heap.size → j ≠ Bok → j ≠ W2.heap.size → j ≠ W2.heap.size + 1 → W.heap[j]? = W3.heap[j]?) ∧ W.os = W3.os ∧ W.tape = W3.tape ∧ W.output = W3.output)
    (Nat.le_refl _) (noFp_ok _) ?_ ?_ ?_ ?_)).mono ?_
  · rintro s X Y row ⟨⟨⟨b, h1, h2⟩, h3, h4⟩, h5, h6, h7, h8, h9⟩ hg hr
    exact ⟨⟨⟨b, h1.kept hg (fun e => by have := (hr _ e.symm).1; have := hbo.lt; omega), h2⟩, h3.kept hg (fun e => by have := (hr _ e.symm).1; omega), h4.kept hg (fun e => by have := (hr _ e.symm).1; omega)⟩, Nat.le_trans h5 hg.size,
      fun j hj a1 a2 a3 => (hg.block j (by omega) (fun e => by have := (hr _ e.symm).1; omega)).trans (h6 j hj a1 a2 a3), hg.os.trans h7, hg.tape.trans h8, hg.output.trans h9⟩
  · rintro s X Y row ⟨⟨b, h1, h2⟩, h5, h6, h7, h8, h9⟩ hg hr
    exact ⟨⟨b, h1.kept hg (fun e => by have := (hr _ e.symm).1; have := hbo.lt; omega), h2⟩, Nat.le_trans h5 hg.size,
      fun j hj a1 a2 a3 => (hg.block j (by omega) (fun e => by have := (hr _ e.symm).1; omega)).trans (h6 j hj a1 a2 a3), hg.os.trans h7, hg.tape.trans h8, hg.output.trans h9⟩
  · exact ⟨⟨⟨true, hbok3, fun _ => rfl⟩, hn3, hk3⟩, Nat.le_refl _, fun _ _ _ _ _ => rfl, rfl, rfl, rfl⟩
  · refine .inr ⟨_, _, _, _, rfl, rfl, ?_⟩
    rintro pre x W1 ⟨⟨⟨b, h1, h2⟩, h3, h4⟩, h5, h6, h7, h8, h9⟩ hlen
    obtain ⟨ra, cap, rfl⟩ := ownsRow_shape hrow
    obtain ⟨g, rfl⟩ := (bk_of hrow).shape.2 (by intro h; rw [h] at hlen; simp at hlen)
    have hg := hrow.lt g rfl
    have hrow1 : Bk 99 W1 (.slice (some ⟨g, 0, none⟩) F.length cap) F := by
      have h0 := bk_of hrow
      refine ⟨h0.1, ?_⟩
      rcases h0.2 with h0 | ⟨g', cap', cur, q1, q2, q3, q4⟩
      · cases h0.1
      · cases q1
        exact .inr ⟨_, _, cur, rfl, q2, (h6 g (by omega) (by omega) (by omega) (by omega)).trans ((hb3 g (by omega)).trans q3), q4⟩
    have hl1 : W1.cell? ⟨Bl, 0, none⟩ = some (.slice (some ⟨g, 0, none⟩) F.length cap) := by
      have hbl1 : Boxed W1 Bl 93 (.slice (some ⟨g, 0, none⟩) F.length cap) := (h6 Bl (by omega) hd (by omega) (by omega)).trans ((hb3 Bl (by omega)).trans hb)
      exact hbl1.cell
    obtain ⟨x0, x1, x2, x3, x4⟩ := hrow1.five pre.length hlen
    refine (toldR_any Bok (W2.heap.size + 1) W2.heap.size Bl g cap F.length pre.length b x (reg F pre.length) W1 h1 h3 h4 hl1 x0 x1 x2 x3 x4 hlen hFl (by omega) (by omega) (by omega) (fun e => hd e.symm) (by omega) (by omega) (by omega) (by omega) (by omega)).mono ?_
    rintro e W' ⟨rfl, ⟨bb, k1, k1'⟩, k2, k3, k4, k5, k6, k7, k8⟩
    have lt_some : ∀ {k : Nat} {o : Obj}, W1.heap[k]? = some o → k < W1.heap.size := fun h => (Array.getElem?_eq_some_iff.1 h).1
    have hRel : W3.heap.size ≤ W'.heap.size ∧ (∀ j, j < W3.heap.size → j ≠ Bok → j ≠ W2.heap.size → j ≠ W2.heap.size + 1 → W'.heap[j]? = W3.heap[j]?) ∧ W'.os = W3.os ∧ W'.tape = W3.tape ∧ W'.output = W3.output :=
      ⟨by omega, fun j hj a1 a2 a3 => (k5 j (by omega) a1 a3 a2).trans (h6 j hj a1 a2 a3), k6.trans h7, k7.trans h8, k8.trans h9⟩
    have hKF : KeepsFrom W3.heap.size W1 W' := ⟨by omega, fun k o hk ho _ => by rw [k5 k (lt_some ho) (by have := hbo.lt; omega) (by omega) (by omega)]; exact ho⟩
    have hb' : pre ++ [x] = F.take (pre ++ [x]).length → bb = true := fun h => by
      rw [List.length_append, List.length_singleton, take_reg F _ hlen] at h
      obtain ⟨e1, e2⟩ := List.append_inj h (by simp; omega)
      exact k1' ⟨h2 e1, by simpa using e2⟩
    cases hdec : decide (F.length / 2 < pre.length + 1)
    · rw [hdec] at k2
      refine .inl ⟨rfl, ⟨⟨⟨_, k1, hb'⟩, k2, ?_⟩, hRel⟩, ⟨by omega, fun k o hk _ ho _ => by rw [k5 k (lt_some ho) (by have := hbo.lt; omega) (by omega) (by omega)]; exact ho, fun _ h => h.elim⟩, hKF⟩
      rw [List.length_append, List.length_singleton]
      exact k3
    · exact .inr ⟨rfl, ⟨⟨_, k1, hb'⟩, hRel⟩, hKF⟩
  · rintro e W' ⟨he, h⟩
    rcases h with ⟨⟨⟨b, h1, h2⟩, _, _⟩, hR⟩ | ⟨k, hk, ⟨b, h1, h2⟩, hR⟩
    · rw [h2 (by simp)] at h1
      exact ⟨he, h1, hR⟩
    · rw [h2 (by rw [List.length_take]; rcases Nat.le_total k F.length with h | h; rw [Nat.min_eq_left h]; rw [Nat.min_eq_right h, List.take_of_length_le h, List.take_of_length_le (Nat.le_refl _)])] at h1
      exact ⟨he, h1, hR⟩
end Go.Proofs.YtjhlijobdihplaaGreatDoor
namespace Go.Proofs.YtjhlijobdihplaaGreatDoor
open Go.RowKit Go.Maps Go.Shelf Go.Lib Go.Extern
attribute [local go_sem] Oper.semAt_some

/-- what contacts.Registers hands out, and that it goes on telling l as long as nothing but what lies between lo and hi turns -/
def HandsR (w : World) (p : Nat) (l : List Reg) : Prop := ∀ W, Below w.heap.size w W → Calls Tryz.prog 70 #[.pointer (some ⟨p, 0, none⟩)] W
  fun e W1 => ∃ lb, e = .returned (.func (.func 95) #[] lb) ∧ Below W.heap.size W W1 ∧
    ∀ W', W1.heap.size ≤ W'.heap.size → (∀ j, j < W1.heap.size → (j < w.heap.size ∨ W.heap.size ≤ j) → W'.heap[j]? = W1.heap[j]?) → TellsR 95 lb l W'

set_option maxRecDepth 100000 in
set_option maxHeartbeats 2000000 in
theorem regsP_any (pw g i cap len p : Nat) (l : List Reg) (w : World) (hw : w.cell? ⟨pw, 0, none⟩ = some (.slice (some ⟨g, 0, none⟩) len cap)) (hi : i < len) (_hlen : len ≤ 100000) (hp : w.cell? ⟨g, i, none⟩ = some (.pointer (some ⟨p, 0, none⟩)))
    (hH : HandsR w p l) (hll : l.length ≤ 100000) :
    Calls Tryz.prog 49 #[.pointer (some ⟨pw, 0, none⟩), .int .i64 i] w
      fun e w' => ∃ rv, e = .returned (.tuple #[rv, .bool true]) ∧ w'.ownsRow w.heap.size 99 5 rv l.length (rowCells l) ∧ Below w.heap.size w w' := by
  have l1 := lt_of_cell hw
  have l2 := lt_of_cell hp
  have HH : Hid (HandsR w p l) := hH
  clear hH
  refine (callsIn_wide (n := 40)).1 ?_
  refine callsIn_of_wp_marks Tryz.func49 rfl trivial ?_ rfl
  simp only [Tryz.ntmps49, List.size_toArray, List.length_cons, List.length_nil, Nat.reduceAdd, Nat.reduceSub, Array.replicate_succ, Array.replicate_zero, List.push_toArray, List.append_toArray, List.nil_append, List.cons_append]
  have hbX : Below w.heap.size w ((w.alloc (.cells #[.slice none 0 0] 93)).alloc (.cells #[.bool true] 4)) := ((Below.refl _ w).alloc (Nat.le_refl _) _).alloc (by simp) _
  have hbl0 : Boxed ((w.alloc (.cells #[.slice none 0 0] 93)).alloc (.cells #[.bool true] 4)) w.heap.size 93 (.slice none 0 0) := (Boxed.new w _ _).alloc _
  have hbo0 : Boxed ((w.alloc (.cells #[.slice none 0 0] 93)).alloc (.cells #[.bool true] 4)) (w.heap.size + 1) 4 (.bool true) := by
    have := Boxed.new (w.alloc (.cells #[.slice none 0 0] 93)) 4 (.bool true)
    rw [World.size_alloc] at this
    exact this
  have hcall := HH.out _ hbX
  gi_wp2_with (refine ⟨trivial, ?_⟩; gi_at_call 70; refine (callsIn_wide.2 hcall).mono ?_; clear hcall; rintro e wl ⟨lb, rfl, hbW, hTl⟩)
  have hsX : ((w.alloc (.cells #[.slice none 0 0] 93)).alloc (.cells #[.bool true] 4)).heap.size = w.heap.size + 2 := by simp
  have hbl : Boxed wl w.heap.size 93 (.slice none 0 0) := (hbW.block _ hbl0.lt).trans hbl0
  have hbo : Boxed wl (w.heap.size + 1) 4 (.bool true) := (hbW.block _ hbo0.lt).trans hbo0
  have hbw : Below w.heap.size w wl := hbX.trans (hbW.mono hbX.size)
  have hwle : w.heap.size + 2 ≤ wl.heap.size := by have := hbW.size; omega
  have HT : Hid (∀ W', wl.heap.size ≤ W'.heap.size → (∀ j, j < wl.heap.size → (j < w.heap.size ∨ w.heap.size + 2 ≤ j) → W'.heap[j]? = wl.heap[j]?) → TellsR 95 lb l W') := by
    intro W' h1 h2
    exact hTl W' h1 (fun j hj hc => h2 j hj (by rw [hsX] at hc; exact hc))
  clear hTl hbl0 hbo0 hbX hbW hsX HH
  obtain ⟨i0, hti, hz0, hz1, hz2⟩ := info_parts Tryz.infoApi
  have hfp := fpBox_ok hbl
  clear hw hp
  refine range_tells2 (α := Reg) (by omega) (gf := 95) (lb := lb) rfl (enters_of Tryz.func95 (by kernel_rfl) rfl)
    (encs := fun x => #[regV x]) (fun _ => rfl) (fpBox w.heap.size) hfp.kept
    (fun pre W => (∃ rv, Boxed W w.heap.size 93 rv ∧ W.ownsRow wl.heap.size 99 5 rv pre.length (rowCells pre) ∧ (rv = .slice none 0 0 ↔ pre = [])) ∧ wl.grownBy W (some w.heap.size))
    (OwnFrom.and (Own.from (holdsRow_own wl.heap.size w.heap.size 93 99 5 (fun pre => pre.length) (fun pre => rowCells pre) (fun pre rv => rv = .slice none 0 0 ↔ pre = [])) _) (ownFrom_grown _ _))
    ⟨⟨_, hbl, World.ownsRow_nil _ _ _ _, by simp⟩, ⟨rfl, rfl, rfl, Nat.le_refl _, fun _ _ _ => rfl⟩⟩
    (fun x a' X => ∃ Bx, wl.heap.size ≤ Bx ∧ five X Bx x ∧ a' = { tmps := #[.pointer (some ⟨pw, 0, none⟩), .int .i64 i, undef, undef, .slice none 0 0, .bool false, .pointer (some ⟨w.heap.size, 0, none⟩), .pointer (some ⟨w.heap.size + 1, 0, none⟩), .func (.func 95) #[] lb, .pointer (some ⟨Bx, 0, none⟩), undef, undef, .pointer (some ⟨pw, 0, none⟩), .pointer (some ⟨pw, 0, none⟩), .pointer (some ⟨pw, 0, none⟩), .slice (some ⟨g, 0, none⟩) len cap, .int .i64 i, .pointer (some ⟨g, i, none⟩), .pointer (some ⟨p, 0, none⟩), .func (.func 95) #[] lb, .func (.func 95) #[] lb, regV x, undef, undef, undef, undef, undef, undef, undef, undef, undef], defers := [] })
    (fun _ => True) (fun x a' X Y row h hg hr => by obtain ⟨Bx, h1, h2, h3⟩ := h; exact ⟨Bx, h1, five_own h2 hg hr, h3⟩)
    l ?assign ?body ?call ?done
  case assign =>
    rintro lq m pre x W K ⟨⟨rv, hb, hrow, hnil⟩, hgr⟩ hsz hK
    unfold regV
    gi_wp2
    have hg := World.grownBy_alloc W (.cells #[.string x.n, .string x.f, .int .i64 x.c, .int .i64 x.r, .string x.v] 99) none
    refine hK _ _ (KeepsOthers.alloc _ _) (keepL_alloc hfp _ _ (by omega)) ⟨⟨rv, hb.alloc _, hrow.alloc _, hnil⟩, ownFrom_grown _ _ pre _ _ none hgr hg (fun r e => by cases e)⟩ ?_
    exact ⟨W.heap.size, by omega, ⟨by simp, by simp, by simp, by simp, by simp⟩, rfl⟩
  case body =>
    rintro lq m pre x a' W ⟨⟨rv, hb, hrow, hnil⟩, hgr⟩ ⟨Bx, hBx, ⟨z0, z1, z2, z3, z4⟩, rfl⟩ hsz hlen' _
    have hc := hb.cell
    have hlt2 : pre.length ≤ 99999 := by omega
    unfold regV
    gi_wp2_with (gi_at_builtin; refine wpListIn_append_own_at _ rfl _ _ 93 rfl wl.heap.size 99 i0 _ 5 64 Tryz.underlying93 hti hz0 hz1 hz2 rfl (by decide) _ _ _ rfl (hrow.alloc _) ⟨W.heap.size, 0, none⟩ 1 1 x.cells rfl rfl (news_new W x.cells _) (cells_one _) (by unfold maxLen; omega) (by omega) (by simp; omega) ?_; intro v' w1 hown' hgrow _ hob; obtain ⟨g', cap', rfl⟩ := ownsRow_succ hown'; obtain ⟨hv1, hv2, hr2, hk2, hb2⟩ := hb.appended (by decide) (ownsRow_base hrow (show w.heap.size ≤ wl.heap.size by omega)) (by omega) (Nat.le_refl _) (ownsRow_base hown' (show w.heap.size ≤ wl.heap.size by omega)) hgrow; have hc1 := hv1.cell; have hf1 := hv1.frozen)
    refine ⟨(keepC_appended hb hk2 hgrow hv2 hob).2, ⟨_, hv2, ?_, by simp⟩, grown_appended hgr hgrow (fun k e => (hrow.lt k e).1)⟩
    have h5 := row_snoc (hown'.kept (grownBy_setCell' w1 w.heap.size (.slice (some ⟨g', 0, none⟩) (pre.length + 1) cap')) (.inr (hv1.not_row (by decide) hown').symm))
    rw [List.length_append, List.length_singleton] at h5
    exact h5
  case call =>
    intro J W1 hb1 hs1 hJ hJ0 hY
    have hbl1 : Boxed W1 w.heap.size 93 (.slice none 0 0) := (hb1.block _ (by omega)).trans hbl
    have hT := HT.out W1 hb1.size (fun j hj _ => hb1.block j hj)
    have h65 := hT (.yield (wl.heap.size + 1)) #[] (40 - 1) (fpBox w.heap.size) J (fun _ _ => False) (by omega) (fpBox_ok hbl1) hJ (fun _ _ _ _ h _ _ => h) hJ0
      (.inl ⟨_, rfl, rfl, fun m pre x X hX hl => (hY m pre x X hX hl trivial).mono (fun e W' h => .inl h)⟩)
    exact h65.mono (fun e W' h => ⟨h.1, h.2.elim id (fun ⟨_, _, h⟩ => h.elim)⟩)
  case done =>
    rintro D W2 hD ⟨⟨rv, hb, hrow, hnil⟩, hgr⟩ hK
    have hbo2 : Boxed W2 (w.heap.size + 1) 4 (.bool true) := hbo.kept hgr (fun e => by have := Option.some.inj e; omega)
    have hb2 : Below w.heap.size w W2 := hbw.trans (((Below.refl _ _).grown hgr (by omega) (fun k e => by cases e; exact Nat.le_refl _)))
    have hs2 := hgr.size
    obtain ⟨W3, hW3⟩ : ∃ W3, (W2.alloc (.cells #[.int .i64 0] 3)).alloc (.cells #[.bool false] 4) = W3 := ⟨_, rfl⟩
    have hsz3 : W3.heap.size = W2.heap.size + 2 := by rw [← hW3]; simp
    have hb3 : ∀ j, j < W2.heap.size → W3.heap[j]? = W2.heap[j]? := fun j hj => by rw [← hW3, Below.heap_alloc _ _ _ (by simp; omega), Below.heap_alloc _ _ _ hj]
    have hT := HT.out W3 (by omega) (fun j hj hc => (hb3 j (by omega)).trans (hgr.block j hj (fun e => by have := Option.some.inj e; omega)))
    have h65 := secondR_any 95 lb w.heap.size (w.heap.size + 1) l W2 W3 hW3 hll wl.heap.size (by omega) (by omega) (by omega) (by omega) rv hb hrow hbo2 hT
    have HW3 : Hid (W3.os = W2.os ∧ W3.tape = W2.tape ∧ W3.output = W2.output ∧ W3.heap.size = W2.heap.size + 2) := ⟨by rw [← hW3]; rfl, by rw [← hW3]; rfl, by rw [← hW3]; rfl, hsz3⟩
    have H65 : Hid (_ ∧ _) := ⟨hW3, h65⟩
    clear hbl hbo hbw hfp hgr hT hsz3 h65 hW3
    gi_wp2
    refine ⟨trivial, ?_⟩
    rw [H65.out.1]
    refine (callsIn_wide.2 H65.out.2).mono ?_
    clear H65
    rintro e W4 ⟨⟨v4, rfl⟩, hbo4, hs4, hbk4, ho4, ht4, hu4⟩
    have hDl := (Array.getElem?_eq_some_iff.1 hK).1
    have hgl : ∀ j, j < W2.heap.size → j ≠ w.heap.size + 1 → W4.heap[j]? = W2.heap[j]? := fun j hj hne => by
      rw [hbk4 j (by rw [HW3.out.2.2.2]; omega) hne (by omega) (by omega)]; exact hb3 j hj
    have hK4 : W4.heap[D]? = some (.deferred (some [])) := (hgl D hDl (by omega)).trans hK
    have hb4 : Boxed W4 w.heap.size 93 rv := (hgl _ (by omega) (by omega)).trans hb
    have hrow4 : W4.ownsRow wl.heap.size 99 5 rv l.length (rowCells l) := by
      refine ⟨hrow.1, ?_⟩
      rcases hrow.2 with h0 | ⟨g', cap', cur, q1, q2, q3, q4⟩
      · exact .inl h0
      · exact .inr ⟨g', cap', cur, q1, q2, (hgl g' (Array.getElem?_eq_some_iff.1 q3).1 (by omega)).trans q3, q4⟩
    have hbel4 : Below w.heap.size w W4 := hb2.trans ⟨by rw [ho4, HW3.out.1], by rw [ht4, HW3.out.2.1], by rw [hu4, HW3.out.2.2.1], by rw [HW3.out.2.2.2] at hs4; omega, fun j hj => hgl j (by omega) (by omega)⟩
    have c4 := hb4.cell
    have c5 := hbo4.cell
    obtain ⟨ra, rcap, rfl⟩ := ownsRow_shape hrow4
    clear hgl hb3 HW3 hbk4 hs4
    have hrow5 : (W4.putObj D (.deferred none)).ownsRow wl.heap.size 99 5 (.slice ra l.length rcap) l.length (rowCells l) := ownsRow_putObj hrow4 _ hK4 rfl
    have hbel5 : Below w.heap.size w (W4.putObj D (.deferred none)) := hbel4.trans (belowK_b (w := w) (Nat.le_refl _) W4 D _ _ (by omega) hK4 rfl rfl)
    have HR5 : Hid ((W4.drew.putObj D (.deferred none)).ownsRow wl.heap.size 99 5 (.slice ra l.length rcap) l.length (rowCells l) ∧ Below w.heap.size w (W4.drew.putObj D (.deferred none))) := ⟨⟨hrow5.1, hrow5.2⟩, ⟨hbel5.os, hbel5.tape, hbel5.output, hbel5.size, hbel5.block⟩⟩
    have HKd : Hid (W4.drew.heap[D]? = some (.deferred (some []))) := hK4
    clear hrow5 hbel5 hK4 hrow4 hbel4 hrow
    gi_wp2
    refine wpIn_noexit ?_
    gi_region
    all_goals gi_wp2
    all_goals refine ⟨by simp, .inl ⟨_, _, rfl, run_takeDeferred HKd.out, ?_⟩⟩
    all_goals refine ⟨.tuple #[.slice ra l.length rcap, .bool true], ?_, _, rfl, ?_, HR5.out.2⟩
    all_goals first | (exact ownsRow_base HR5.out.1 (by omega)) | (simp [results, Tryz.f49, go_sem])
end Go.Proofs.YtjhlijobdihplaaGreatDoor
namespace Go.Proofs.YtjhlijobdihplaaGreatDoor
open Go.RowKit Go.Maps Go.Shelf

/-- what is asked of contacts.Registers -/
def RegR : Prop := ∀ (w : World) (r : RD) (n : Nat), Rep w r n → n ≤ 5000 → HandsR w r.p r.l
/-- what is asked of contacts.Digest -/
def DigR : Prop := ∀ (w : World) (r : RD) (n : Nat) (s : ByteArray), TabT w → Rep w r n → n ≤ 5000 → s.size ≤ 5000 →
  Calls Tryz.prog 50 #[.pointer (some ⟨r.p, 0, none⟩), .string s] w fun e w' => e = .returned (digV (linesL r.l s)) ∧ Below w.heap.size w w'

theorem regC_of (h : RegR) : RegC := by
  intro base pw N n i rs w hP hi hN hn
  obtain ⟨g, cap, ha⟩ := hP.at hi (by omega)
  have hr := hP.reps i hi
  have hlen := hr.len
  refine (regsP_any pw g i cap N (rs i).p (rs i).l w ha.hw hi ha.hlen ha.hp (h w (rs i) n hr hn) (by omega)).mono ?_
  rintro e w' ⟨rv, rfl, hrow, hb⟩
  exact ⟨rv, rfl, ownsRow_base hrow (Nat.zero_le _), hb⟩

theorem digC_of (h : DigR) : DigC := by
  intro base pw N n i rs w s hT hP hi hN hn hs
  obtain ⟨g, cap, ha⟩ := hP.at hi (by omega)
  exact digestP pw g i N cap (rs i).p s (linesL (rs i).l s) w ha (fun W hb => h W (rs i) n s (tabT_below hT hb) ((hP.reps i hi).below (Nat.le_refl _) hb) hn hs)
end Go.Proofs.YtjhlijobdihplaaGreatDoor
