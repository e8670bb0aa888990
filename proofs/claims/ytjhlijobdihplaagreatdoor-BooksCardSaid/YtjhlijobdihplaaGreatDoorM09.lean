import Derived.Test.YtjhlijobdihplaaGreatDoorM08
namespace Go.Proofs.YtjhlijobdihplaaGreatDoor
open Go.RowKit Go.Maps Go.Shelf Go.Lib Go.Extern

/-- one round of a loop whose record stands ready: behind it the record stands as it stood -/
theorem round_tells {P : Program} {m lp : Nat} {r : Loop} {args : Array Value} {W : World} (h : W.heap[lp]? = some (.loop r)) (hr : r.state = .ready) (hp : r.pending = none) (hs : args.size = r.params.size) (a₁ : Act)
    (hassign : ∀ (K : Act → World → Prop), K a₁ W → r.assign.wpIn (Fence.wide.inRound lp) m P (Exit.then K (fun _ _ _ => False)) { tmps := (r.params.zip args).foldl (fun t (p, v) => t.setIfInBounds p v) r.tmps, defers := [] } W)
    (R : World → Prop) (hbody : r.body.wpIn (Fence.wide.inRound lp) m P (fun e _ W3 => e = .normal ∧ W3.heap[lp]? = some (.loop { r with state := .busy }) ∧ R (W3.putObj lp (.loop r))) a₁ (W.putObj lp (.loop { r with state := .busy }))) :
    YieldAt Fence.wide m P lp args W (fun e W' => e = .returned (.bool true) ∧ R W') := by
  refine ⟨r.fn, _, r.assign, r.body, run_yield h hs, roundIn_of_wpIn trivial (hassign _ ?_)⟩
  refine ⟨_, run_beginRound h hr, wpIn_mono hbody ?_⟩
  rintro e a3 W3 ⟨rfl, h3, hR⟩
  have hE := run_endRound (P := P) none h3
  have e1 : ({ { r with state := .busy } with state := if (none : Option Code).isNone then .ready else .done, pending := none } : Loop) = r := by
    cases r; simp at hr hp; subst hr hp; rfl
  rw [e1] at hE
  exact ⟨_, _, hE, rfl, hR⟩

/-- a loop over an iterator that is itself a loop over one: the rounds leave whatever is no cells as it lay; the iterator tells F -/
theorem range_tells {α : Type} {P : Program} {n : Nat} {g : Operand} {ps : Array Tmp} {assign body : Code} {Q : Exit → Act → World → Prop} {a : Act} {w : World} (h1 : 1 ≤ n) {gf : Nat} {lb : Array Value} (hg : a.eval g = .func (.func gf) #[] lb) (eg : ∀ args w, (callFunc gf args).run P w = .ok (.enter gf args) w)
    {encs : α → Array Value} (hps : ∀ x, (encs x).size = ps.size) (fp : World → Nat → Prop) (hfp : ∀ A B row, w.heap.size ≤ A.heap.size → A.grownBy B row → (∀ r, row = some r → ∃ o : Obj, A.heap[r]? = some o ∧ o.isCells = false) → ∀ k, fp B k → fp A k)
    (I : List α → World → Prop) (hI : OwnFrom w.heap.size I) (h0 : I [] w) (a₁ : α → Act) (F : List α)
    (hassign : ∀ (l m : Nat) (x : α) (W : World) (K : Act → World → Prop), K (a₁ x) W → assign.wpIn (Fence.wide.inRound l) m P (Exit.then K (fun _ _ _ => False)) { tmps := (ps.zip (encs x)).foldl (fun t (p, v) => t.setIfInBounds p v) a.tmps, defers := [] } W)
    (hbody : ∀ (l m : Nat) (pre : List α) (x : α) (W : World), I pre W → pre.length < F.length → body.wpIn (Fence.wide.inRound l) m P (fun e _ W' => e = .normal ∧ KeepsOthers W W' ∧ KeepL fp (w.heap.size + 2) W W' ∧ I (pre ++ [x]) W') (a₁ x) W)
    (hcall : ∀ (J : List α → World → Prop) (W1 : World), Below w.heap.size w W1 → W1.heap.size = w.heap.size + 2 → OwnFrom W1.heap.size J → J [] W1 → (∀ m pre x W, J pre W → pre.length < F.length → YieldAt Fence.wide m P (w.heap.size + 1) (encs x) W (fun e W' => e = .returned (.bool true) ∧ J (pre ++ [x]) W' ∧ KeepL fp W1.heap.size W W' ∧ KeepsFrom W1.heap.size W W')) →
      CallsIn Fence.wide (n - 1) P gf (#[.func (.yield (w.heap.size + 1)) #[] #[]] ++ lb) W1 fun e W' => (∃ v, e = .returned v) ∧ J F W')
    (hdone : ∀ (D : Nat) (W : World), w.heap.size ≤ D → I F W → W.heap[D]? = some (.deferred (some [])) → Q .normal { a with defers := { target := .collected D, args := #[] } :: a.defers } W) :
    (Code.rangeFunc g ps assign body).wpIn Fence.wide n P Q a w := by
  refine wpIn_rangeFunc ?_
  intro fn _
  obtain ⟨r, hrd⟩ : ∃ r : Loop, ({ state := .ready, pending := none, fn, tmps := a.tmps, params := ps, assign, body, defers := w.heap.size } : Loop) = r := ⟨_, rfl⟩
  obtain ⟨W1, hW1⟩ : ∃ W1, (w.alloc (.deferred (some []))).alloc (.loop r) = W1 := ⟨_, rfl⟩
  have hL : W1.heap[w.heap.size + 1]? = some (.loop r) := by
    have := World.alloc_heap_new (w.alloc (.deferred (some []))) (.loop r)
    rw [World.size_alloc, hW1] at this; exact this
  have hD : W1.heap[w.heap.size]? = some (.deferred (some [])) := by
    rw [← hW1, Below.heap_alloc _ _ _ (by simp)]; exact World.alloc_heap_new w _
  have hb1 : Below w.heap.size w W1 := by rw [← hW1]; exact ((Below.refl _ w).alloc (Nat.le_refl _) _).alloc (by simp) _
  have hs1 : W1.heap.size = w.heap.size + 2 := by rw [← hW1]; simp
  have hI1 : I [] W1 := hI _ _ _ none h0 (below_grown hb1) (fun r e => by cases e)
  refine ⟨w.heap.size + 1, [{ target := .collected w.heap.size, args := #[] }], W1, { target := .fn (.func gf) lb, args := #[.func (.yield (w.heap.size + 1)) #[] #[]] }, W1, gf, #[.func (.yield (w.heap.size + 1)) #[] #[]] ++ lb, W1, ?_, ?_, fun _ _ => trivial, ?_, fun _ => h1, ?_⟩
  · rw [← hW1, ← hrd]; exact run_enterLoop_outer _ _ _ _ _
  · simp only [resolve, hg]
    simp [go_sem]
  · simp [invoke, go_sem, eg]
  · have hJo : OwnFrom W1.heap.size (fun pre W => I pre W ∧ W.heap[w.heap.size + 1]? = some (.loop r) ∧ W.heap[w.heap.size]? = some (.deferred (some []))) := fun s A B row hs hg' hr =>
      ⟨hI s A B row hs.1 hg' (fun q e => ⟨by have := (hr q e).1; omega, (hr q e).2⟩),
       (hg'.block _ (Array.getElem?_eq_some_iff.1 hs.2.1).1 (fun e => by have := (hr _ e.symm).1; omega)).trans hs.2.1,
       (hg'.block _ (Array.getElem?_eq_some_iff.1 hs.2.2).1 (fun e => by have := (hr _ e.symm).1; omega)).trans hs.2.2⟩
    refine (hcall _ W1 hb1 hs1 hJo ⟨hI1, hL, hD⟩ ?_).mono ?_
    · rintro m pre x W ⟨hi, hl, hd⟩ hlen
      have hlt := (Array.getElem?_eq_some_iff.1 hl).1
      have hrb : ({ r with state := .busy } : Loop).state = .busy := rfl
      refine round_tells hl (by rw [← hrd]) (by rw [← hrd]) (by rw [← hrd]; exact hps x) (a₁ x) ?_ _ ?_
      · intro K hK
        rw [← hrd]
        exact hassign _ _ x W K hK
      · obtain ⟨X, hX⟩ : ∃ X, W.putObj (w.heap.size + 1) (.loop { r with state := .busy }) = X := ⟨_, rfl⟩
        have hlX : X.heap[w.heap.size + 1]? = some (.loop { r with state := .busy }) := by rw [← hX]; exact World.putObj_heap_same hlt
        have hoX : ∀ k, k ≠ w.heap.size + 1 → X.heap[k]? = W.heap[k]? := fun k hk => by rw [← hX]; exact World.putObj_heap_other hk
        have hgX : W.grownBy X (some (w.heap.size + 1)) := by rw [← hX]; exact grownBy_putObj' _ _ _
        have hiX : I pre X := by rw [← hX]; exact hI.putObj _ hi (by omega) hl rfl
        have hsX : X.heap.size = W.heap.size := by rw [← hX]; simp [World.putObj]
        rw [hX]
        have hb := hbody (w.heap.size + 1) m pre x X hiX hlen
        rw [← hrd] at hlX ⊢
        refine wpIn_mono hb ?_
        rintro e a3 W3 ⟨rfl, hk3, hf3, hi3⟩
        have hl3 := hk3.same _ _ hlX rfl
        have hd3 := hk3.same _ _ ((hoX _ (by omega)).trans hd) rfl
        have hlt3 := (Array.getElem?_eq_some_iff.1 hl3).1
        refine ⟨rfl, hl3, ⟨hI.putObj _ hi3 (by omega) hl3 rfl, World.putObj_heap_same hlt3, (World.putObj_heap_other (by omega)).trans hd3⟩, ⟨?_, ?_, ?_⟩, ⟨?_, ?_⟩⟩
        · have := hf3.1; simp [World.putObj]; omega
        · intro k o hk hnf ho hc
          rw [World.putObj_heap_other (by omega)]
          exact hf3.2.1 k o (by omega) (fun h => hnf (hfp _ _ _ (by omega) hgX (fun q e => by cases e; exact ⟨_, hl, rfl⟩) k h)) ((hoX k (by omega)).trans ho) hc
        · intro k hk
          have h2 := hfp _ _ _ (by have := hf3.1; omega) (grownBy_putObj' W3 (w.heap.size + 1) _) (fun q e => by cases e; exact ⟨_, hl3, rfl⟩) k hk
          rcases hf3.2.2 k h2 with h3 | h3
          · exact .inl (hfp _ _ _ (by omega) hgX (fun q e => by cases e; exact ⟨_, hl, rfl⟩) k h3)
          · exact .inr (by omega)
        · have := hk3.size; simp [World.putObj]; omega
        · intro k o hk ho hc
          rw [World.putObj_heap_other (by omega)]
          exact hk3.same k o ((hoX k (by omega)).trans ho) hc
    · rintro e W2 ⟨⟨v, rfl⟩, hi, hl, hd⟩
      have hE := run_endLoop (P := P) hl (by rw [← hrd]; simp)
      refine ⟨none, _, by rw [hE, ← hrd], hdone _ _ (Nat.le_refl _) (hI.putObj _ hi (by omega) hl rfl) ((World.putObj_heap_other (by omega)).trans hd)⟩
end Go.Proofs.YtjhlijobdihplaaGreatDoor
namespace Go.Proofs.YtjhlijobdihplaaGreatDoor
open Go.RowKit Go.Maps Go.Shelf Go.Lib Go.Extern

theorem three_set {W : World} {A B C : Nat} {t1 t2 t3 : TypeId} {a b c : Value} (hA : Boxed W A t1 a) (hB : Boxed W B t2 b) (hC : Boxed W C t3 c) (d1 : A ≠ B) (d2 : A ≠ C) (d3 : B ≠ C) (a' b' c' : Value) :
    Boxed (((W.setCell ⟨A, 0, none⟩ a').setCell ⟨B, 0, none⟩ b').setCell ⟨C, 0, none⟩ c') A t1 a' ∧ Boxed (((W.setCell ⟨A, 0, none⟩ a').setCell ⟨B, 0, none⟩ b').setCell ⟨C, 0, none⟩ c') B t2 b' ∧
    Boxed (((W.setCell ⟨A, 0, none⟩ a').setCell ⟨B, 0, none⟩ b').setCell ⟨C, 0, none⟩ c') C t3 c' ∧ (((W.setCell ⟨A, 0, none⟩ a').setCell ⟨B, 0, none⟩ b').setCell ⟨C, 0, none⟩ c').heap.size = W.heap.size ∧
    (∀ j, j ≠ A → j ≠ C → j ≠ B → (((W.setCell ⟨A, 0, none⟩ a').setCell ⟨B, 0, none⟩ b').setCell ⟨C, 0, none⟩ c').heap[j]? = W.heap[j]?) := by
  have h1 := hA.set a'
  have h2 := (hB.other (fun e => d1 e.symm) a').set b'
  have h3 := ((hC.other (fun e => d2 e.symm) a').other (fun e => d3 e.symm) b').set c'
  refine ⟨(h1.other d1 b').other d2 c', h2.other d3 c', h3, by simp [World.setCell], fun j j1 j2 j3 => ?_⟩
  rw [Below.heap_setCell _ _ _ j j2, Below.heap_setCell _ _ _ j j3, Below.heap_setCell _ _ _ j j1]

set_option maxRecDepth 100000 in
set_option maxHeartbeats 2000000 in
theorem told_any (Bok Bno Bk Bl g cap N k : Nat) (b : Bool) (f v yf yv : ByteArray) (W : World) (hok : Boxed W Bok 4 (.bool b)) (hno : Boxed W Bno 4 (.bool false)) (hk : Boxed W Bk 3 (.int .i64 (2 * k : Nat)))
    (hl : W.cell? ⟨Bl, 0, none⟩ = some (.slice (some ⟨g, 0, none⟩) (2 * N) cap)) (h0 : W.cell? ⟨g, 2 * k, none⟩ = some (.string yf)) (h1 : W.cell? ⟨g, 2 * k + 1, none⟩ = some (.string yv)) (hkN : k < N) (hN : N ≤ 100000)
    (d1 : Bok ≠ Bno) (d2 : Bok ≠ Bk) (d3 : Bno ≠ Bk) (d4 : Bok ≠ Bl) (d5 : Bno ≠ Bl) (d6 : Bk ≠ Bl) (d7 : Bok ≠ g) (d8 : Bno ≠ g) (d9 : Bk ≠ g) :
    Calls Tryz.prog 45 #[.string f, .string v, .pointer (some ⟨Bok, 0, none⟩), .pointer (some ⟨Bno, 0, none⟩), .pointer (some ⟨Bk, 0, none⟩), .pointer (some ⟨Bl, 0, none⟩)] W
      fun e W' => e = .returned (.bool (!decide (N < 2 * k + 2))) ∧ Boxed W' Bok 4 (.bool (b && (eqS f yf && eqS v yv))) ∧ Boxed W' Bno 4 (.bool (decide (N < 2 * k + 2))) ∧ Boxed W' Bk 3 (.int .i64 (2 * k + 2 : Nat)) ∧
        W'.heap.size = W.heap.size ∧ (∀ j, j ≠ Bok → j ≠ Bno → j ≠ Bk → W'.heap[j]? = W.heap[j]?) ∧ W'.os = W.os ∧ W'.tape = W.tape ∧ W'.output = W.output := by
  have c1 := hok.cell
  have c2 := hno.cell
  have c3 := hk.cell
  have f1 := hok.frozen
  have f2 := hno.frozen
  have f3 := hk.frozen
  have eN : decide ((N : Int) < 2 * (k : Int) + 2) = decide (N < 2 * k + 2) := decide_eq_decide.2 (by omega)
  have hfin : ∀ bb : Bool, Boxed (((W.setCell ⟨Bok, 0, none⟩ (.bool bb)).setCell ⟨Bk, 0, none⟩ (.int .i64 (2 * (k : Int) + 2))).setCell ⟨Bno, 0, none⟩ (.bool (decide ((N : Int) < 2 * (k : Int) + 2)))) Bok 4 (.bool bb) ∧
      Boxed (((W.setCell ⟨Bok, 0, none⟩ (.bool bb)).setCell ⟨Bk, 0, none⟩ (.int .i64 (2 * (k : Int) + 2))).setCell ⟨Bno, 0, none⟩ (.bool (decide ((N : Int) < 2 * (k : Int) + 2)))) Bk 3 (.int .i64 (2 * (k : Int) + 2)) ∧
      Boxed (((W.setCell ⟨Bok, 0, none⟩ (.bool bb)).setCell ⟨Bk, 0, none⟩ (.int .i64 (2 * (k : Int) + 2))).setCell ⟨Bno, 0, none⟩ (.bool (decide ((N : Int) < 2 * (k : Int) + 2)))) Bno 4 (.bool (decide ((N : Int) < 2 * (k : Int) + 2))) ∧
      (((W.setCell ⟨Bok, 0, none⟩ (.bool bb)).setCell ⟨Bk, 0, none⟩ (.int .i64 (2 * (k : Int) + 2))).setCell ⟨Bno, 0, none⟩ (.bool (decide ((N : Int) < 2 * (k : Int) + 2)))).heap.size = W.heap.size ∧
      (∀ j, j ≠ Bok → j ≠ Bno → j ≠ Bk → (((W.setCell ⟨Bok, 0, none⟩ (.bool bb)).setCell ⟨Bk, 0, none⟩ (.int .i64 (2 * (k : Int) + 2))).setCell ⟨Bno, 0, none⟩ (.bool (decide ((N : Int) < 2 * (k : Int) + 2)))).heap[j]? = W.heap[j]?) :=
    fun bb => three_set hok hk hno d2 d1 (fun e => d3 e.symm) _ _ _
  have HF : Hid (∀ bb : Bool, (∀ be, be = bb → ∀ bn : Bool, bn = !decide ((N : Int) < 2 * (k : Int) + 2) → (Ending.returned (.bool bn) = Ending.returned (.bool (!decide (N < 2 * k + 2))) ∧ Boxed (((W.setCell ⟨Bok, 0, none⟩ (.bool bb)).setCell ⟨Bk, 0, none⟩ (.int .i64 (2 * (k : Int) + 2))).setCell ⟨Bno, 0, none⟩ (.bool (decide ((N : Int) < 2 * (k : Int) + 2)))) Bok 4 (.bool be) ∧ Boxed (((W.setCell ⟨Bok, 0, none⟩ (.bool bb)).setCell ⟨Bk, 0, none⟩ (.int .i64 (2 * (k : Int) + 2))).setCell ⟨Bno, 0, none⟩ (.bool (decide ((N : Int) < 2 * (k : Int) + 2)))) Bno 4 (.bool (decide (N < 2 * k + 2))) ∧ Boxed (((W.setCell ⟨Bok, 0, none⟩ (.bool bb)).setCell ⟨Bk, 0, none⟩ (.int .i64 (2 * (k : Int) + 2))).setCell ⟨Bno, 0, none⟩ (.bool (decide ((N : Int) < 2 * (k : Int) + 2)))) Bk 3 (.int .i64 (2 * k + 2 : Nat)) ∧
        (((W.setCell ⟨Bok, 0, none⟩ (.bool bb)).setCell ⟨Bk, 0, none⟩ (.int .i64 (2 * (k : Int) + 2))).setCell ⟨Bno, 0, none⟩ (.bool (decide ((N : Int) < 2 * (k : Int) + 2)))).heap.size = W.heap.size ∧ (∀ j, j ≠ Bok → j ≠ Bno → j ≠ Bk → (((W.setCell ⟨Bok, 0, none⟩ (.bool bb)).setCell ⟨Bk, 0, none⟩ (.int .i64 (2 * (k : Int) + 2))).setCell ⟨Bno, 0, none⟩ (.bool (decide ((N : Int) < 2 * (k : Int) + 2)))).heap[j]? = W.heap[j]?)))) := by
    intro bb be hbe bn hbn
    subst hbe hbn
    obtain ⟨q1, q2, q3, q4, q5⟩ := hfin be
    have ek : ((2 * k + 2 : Nat) : Int) = 2 * (k : Int) + 2 := by omega
    rw [ek, ← eN]
    exact ⟨rfl, q1, q3, q2, q4, q5⟩
  clear hfin hok hno hk
  cases b with
  | false =>
    clear eN
    go_enter Tryz.func45, Tryz.ntmps45
    go_wp2
    go_ret
    obtain ⟨q1, q2, q3, q4, q5, q6⟩ := HF.out false _ rfl _ rfl
    exact ⟨q1, q2, q3, q4, q5, q6, rfl, rfl, rfl⟩
  | true =>
    clear eN
    unfold eqS
    cases hx : (f.toList == yf.toList)
    · go_enter Tryz.func45, Tryz.ntmps45
      go_wp2
      go_ret
      obtain ⟨q1, q2, q3, q4, q5, q6⟩ := HF.out false _ rfl _ rfl
      exact ⟨q1, q2, q3, q4, q5, q6, rfl, rfl, rfl⟩
    · cases hy : (v.toList == yv.toList)
      · go_enter Tryz.func45, Tryz.ntmps45
        go_wp2
        go_ret
        obtain ⟨q1, q2, q3, q4, q5, q6⟩ := HF.out false _ rfl _ rfl
        exact ⟨q1, q2, q3, q4, q5, q6, rfl, rfl, rfl⟩
      · go_enter Tryz.func45, Tryz.ntmps45
        go_wp2
        go_ret
        obtain ⟨q1, q2, q3, q4, q5, q6⟩ := HF.out true _ rfl _ rfl
        exact ⟨q1, q2, q3, q4, q5, q6, rfl, rfl, rfl⟩
end Go.Proofs.YtjhlijobdihplaaGreatDoor
namespace Go.Proofs.YtjhlijobdihplaaGreatDoor
open Go.RowKit Go.Maps Go.Shelf Go.Lib Go.Extern
attribute [local go_sem] Oper.semAt_some

theorem lt_of_cell {w : World} {q j : Nat} {u : Value} (h : w.cell? ⟨q, j, none⟩ = some u) : q < w.heap.size := by
  rcases Nat.lt_or_ge q w.heap.size with h' | h'
  · exact h'
  · simp [World.cell?, Array.getElem?_eq_none h'] at h

def txF (F : List Reg) : List ByteArray := F.flatMap fun x => [x.f, x.v]
theorem txF_snoc (F : List Reg) (x : Reg) : txF (F ++ [x]) = txF F ++ [x.f, x.v] := by simp [txF]
theorem txF_len (F : List Reg) : (txF F).length = 2 * F.length := by
  induction F with
  | nil => rfl
  | cons x F ih => simp [txF] at ih ⊢; omega

theorem ownFrom_grown {β : Type} (wl : World) (B : Nat) : OwnFrom wl.heap.size (fun (_ : β) W => wl.grownBy W (some B)) := fun _ X Y row hs hg hr =>
  ⟨hg.os.trans hs.os, hg.tape.trans hs.tape, hg.output.trans hs.output, Nat.le_trans hs.size hg.size, fun k hk hne => (hg.block k (Nat.lt_of_lt_of_le hk hs.size) (fun e => by have := (hr k e.symm).1; omega)).trans (hs.block k hk hne)⟩

theorem grown_appended {wl W w1 : World} {B : Nat} {tmp : Obj} {v v' : Value} (h : wl.grownBy W (some B)) (hgrow : (W.alloc tmp).grownBy w1 v.ownBlock) (hn : ∀ k, v.ownBlock = some k → wl.heap.size ≤ k) : wl.grownBy (w1.setCell ⟨B, 0, none⟩ v') (some B) := by
  refine ⟨hgrow.os.trans h.os, hgrow.tape.trans h.tape, hgrow.output.trans h.output, ?_, fun k hk hne => ?_⟩
  · have h1 := hgrow.size
    have h2 := h.size
    simp [World.setCell] at h1 ⊢
    omega
  · have hkW := Nat.lt_of_lt_of_le hk h.size
    rw [Below.heap_setCell _ _ _ k (fun e => hne (by rw [e])), hgrow.block k (by simp; omega) (fun e => by have := hn k e.symm; omega), Below.heap_alloc _ _ _ hkW]
    exact h.block k hk hne

theorem txF_at : ∀ (F : List Reg) (k : Nat), k < F.length → (txF F)[2 * k]? = some (reg F k).f ∧ (txF F)[2 * k + 1]? = some (reg F k).v
  | [], k, h => by simp at h
  | x :: F, 0, _ => by simp [txF, reg]
  | x :: F, k + 1, h => by
    have ih := txF_at F k (by simpa using h)
    have e : txF (x :: F) = x.f :: x.v :: txF F := by simp [txF]
    have e2 : reg (x :: F) (k + 1) = reg F k := by simp [reg]
    rw [e, e2]
    constructor
    · rw [show 2 * (k + 1) = 2 * k + 1 + 1 by omega]; simpa using ih.1
    · rw [show 2 * (k + 1) + 1 = 2 * k + 1 + 1 + 1 by omega]; simpa using ih.2

set_option maxHeartbeats 1000000 in
/-- the second going over: all(func ..) -/
theorem second_any (Bl Bok rb nbx p n M : Nat) (r0 : Option Nat) (nb : ByteArray → Nat) (l : List Reg) (name : ByteArray) (W2 W3 : World) (hW3 : (W2.alloc (.cells #[.int .i64 0] 3)).alloc (.cells #[.bool false] 4) = W3) (F : List Reg) (hF : fieldsL l name = F) (hFl : F.length ≤ 100000) (B : Nat) (hB1 : Bl < B) (hB2 : Bok < B) (hd : Bl ≠ Bok) (hBW : B ≤ W2.heap.size)
    (rv : Value) (hb : Boxed W2 Bl 52 rv) (hrow : W2.ownsRow B 9 1 rv (txF F).length ((txF F).map Value.string)) (hbo : Boxed W2 Bok 4 (.bool true)) (c1 : W2.cell? ⟨rb, 0, none⟩ = some (.pointer (some ⟨p, 0, none⟩))) (c2 : W2.cell? ⟨nbx, 0, none⟩ = some (.string name)) (hc : W2.cell? ⟨p, 1, none⟩ = some (.map r0))
    (hB : BookAt W2 (.map r0) M nb l n) (hS : SortedB l) (hs : name.size ≤ maxLen) (hn : n ≤ 100000) (hll : l.length ≤ 100000) :
    Calls Tryz.prog 67 #[.func (.func 45) #[] #[.pointer (some ⟨Bok, 0, none⟩), .pointer (some ⟨W2.heap.size + 1, 0, none⟩), .pointer (some ⟨W2.heap.size, 0, none⟩), .pointer (some ⟨Bl, 0, none⟩)], .pointer (some ⟨rb, 0, none⟩), .pointer (some ⟨nbx, 0, none⟩)] W3
      fun e W' => (∃ v, e = .returned v) ∧ Boxed W' Bok 4 (.bool true) ∧ W3.heap.size ≤ W'.heap.size ∧ (∀ j, j < W3.heap.size → j ≠ Bok → j ≠ W2.heap.size → j ≠ W2.heap.size + 1 → W'.heap[j]? = W3.heap[j]?) ∧ W'.os = W3.os ∧ W'.tape = W3.tape ∧ W'.output = W3.output := by
  have hsz3 : W3.heap.size = W2.heap.size + 2 := by rw [← hW3]; simp
  have hb3 : ∀ j, j < W2.heap.size → W3.heap[j]? = W2.heap[j]? := fun j hj => by rw [← hW3, Below.heap_alloc _ _ _ (by simp; omega), Below.heap_alloc _ _ _ hj]
  have hbel : Below W2.heap.size W2 W3 := by rw [← hW3]; exact ((Below.refl _ _).alloc (Nat.le_refl _) _).alloc (by simp) _
  have hk3 : Boxed W3 W2.heap.size 3 (.int .i64 0) := by rw [← hW3]; exact (Boxed.new W2 _ _).alloc _
  have hn3 : Boxed W3 (W2.heap.size + 1) 4 (.bool false) := by
    have := Boxed.new (W2.alloc (.cells #[.int .i64 0] 3)) 4 (.bool false)
    rw [World.size_alloc, hW3] at this; exact this
  have hbok3 : Boxed W3 Bok 4 (.bool true) := (hb3 _ hbo.lt).trans hbo
  have up : ∀ {q j : Nat} {u : Value}, W2.cell? ⟨q, j, none⟩ = some u → W3.cell? ⟨q, j, none⟩ = some u := fun {q j u} h => (hbel.cell (p := ⟨q, j, none⟩) (show q < _ from lt_of_cell h)).trans h
  refine ((callsIn_wide (n := 8)).1 (fields1_any (.func 45) #[.pointer (some ⟨Bok, 0, none⟩), .pointer (some ⟨W2.heap.size + 1, 0, none⟩), .pointer (some ⟨W2.heap.size, 0, none⟩), .pointer (some ⟨Bl, 0, none⟩)] 8 (by omega) rb nbx p n M (.map r0) nb l name W3 ⟨r0, rfl⟩ (up c1) (up c2) (up hc) (hB.below hbel) hS hs hn hll noFp (noFp_ok _)
    (fun pre W => ((∃ b, Boxed W Bok 4 (.bool b) ∧ (pre = F.take pre.length → b = true)) ∧ Boxed W (W2.heap.size + 1) 4 (.bool false) ∧ Boxed W W2.heap.size 3 (.int .i64 (2 * pre.length : Nat))) ∧ W3.heap.size ≤ W.heap.size ∧ (∀ j, j < W3.heap.size → j ≠ Bok → j ≠ W2.heap.size → j ≠ W2.heap.size + 1 → W.heap[j]? = W3.heap[j]?) ∧ W.os = W3.os ∧ W.tape = W3.tape ∧ W.output = W3.output)
    (fun pre W => (∃ b, Boxed W Bok 4 (.bool b) ∧ (pre = F.take pre.length → b = true)) ∧ W3.heap.size ≤ W.heap.size ∧ (∀ j, j < W3.heap.size → j ≠ Bok → j ≠ W2.heap.size → j ≠ W2.heap.size + 1 → W.heap[j]? = W3.heap[j]?) ∧ W.os = W3.os ∧ W.tape = W3.tape ∧ W.output = W3.output)
    ?_ ?_ ?_ ?_)).mono ?_
  · rintro s X Y row ⟨⟨⟨b, h1, h2⟩, h3, h4⟩, h5, h6, h7, h8, h9⟩ hg hr
    exact ⟨⟨⟨b, h1.kept hg (fun e => by have := (hr _ e.symm).1; have := hbo.lt; omega), h2⟩, h3.kept hg (fun e => by have := (hr _ e.symm).1; omega), h4.kept hg (fun e => by have := (hr _ e.symm).1; omega)⟩, Nat.le_trans h5 hg.size,
      fun j hj a1 a2 a3 => (hg.block j (by omega) (fun e => by have := (hr _ e.symm).1; omega)).trans (h6 j hj a1 a2 a3), hg.os.trans h7, hg.tape.trans h8, hg.output.trans h9⟩
  · rintro s X Y row ⟨⟨b, h1, h2⟩, h5, h6, h7, h8, h9⟩ hg hr
    exact ⟨⟨b, h1.kept hg (fun e => by have := (hr _ e.symm).1; have := hbo.lt; omega), h2⟩, Nat.le_trans h5 hg.size,
      fun j hj a1 a2 a3 => (hg.block j (by omega) (fun e => by have := (hr _ e.symm).1; omega)).trans (h6 j hj a1 a2 a3), hg.os.trans h7, hg.tape.trans h8, hg.output.trans h9⟩
  · exact ⟨⟨⟨true, hbok3, fun _ => rfl⟩, hn3, hk3⟩, Nat.le_refl _, fun _ _ _ _ _ => rfl, rfl, rfl, rfl⟩
  · refine .inr ⟨_, _, _, _, rfl, rfl, ?_⟩
    rintro pre x W1 ⟨⟨⟨b, h1, h2⟩, h3, h4⟩, h5, h6, h7, h8, h9⟩ hlen
    rw [hF] at hlen
    obtain ⟨ra, cap, rfl⟩ := ownsRow_shape hrow
    obtain ⟨g, rfl⟩ := (tx_of hrow).shape.2 (by intro h; have := txF_len F; rw [h] at this; simp at this; omega)
    have hg := hrow.lt g rfl
    have hrow1 : Tx 9 W1 (.slice (some ⟨g, 0, none⟩) (txF F).length cap) (txF F) := by
      have h0 := tx_of hrow
      refine ⟨h0.1, ?_⟩
      rcases h0.2 with h0 | ⟨g', cap', cur, q1, q2, q3, q4⟩
      · cases h0.1
      · cases q1
        exact .inr ⟨_, _, cur, rfl, q2, (h6 g (by omega) (by omega) (by omega) (by omega)).trans ((hb3 g (by omega)).trans q3), q4⟩
    have hl1 : W1.cell? ⟨Bl, 0, none⟩ = some (.slice (some ⟨g, 0, none⟩) (2 * F.length) cap) := by
      have hbl1 : Boxed W1 Bl 52 (.slice (some ⟨g, 0, none⟩) (txF F).length cap) := (h6 Bl (by omega) hd (by omega) (by omega)).trans ((hb3 Bl (by omega)).trans hb)
      rw [txF_len] at hbl1
      exact hbl1.cell
    have t0 := txF_at F pre.length hlen
    have x0 := hrow1.cell (2 * pre.length) (by rw [txF_len]; omega)
    have x1 := hrow1.cell (2 * pre.length + 1) (by rw [txF_len]; omega)
    refine (told_any Bok (W2.heap.size + 1) W2.heap.size Bl g cap F.length pre.length b x.f x.v (reg F pre.length).f (reg F pre.length).v W1 h1 h3 h4 hl1 ?_ ?_ hlen hFl (by omega) (by omega) (by omega) (fun e => hd e.symm) (by omega) (by omega) (by omega) (by omega) (by omega)).mono ?_
    · rw [x0]; simp [str, t0.1]
    · rw [x1]; simp [str, t0.2]
    · rintro e W' ⟨rfl, k1, k2, k3, k4, k5, k6, k7, k8⟩
      have hRel : W3.heap.size ≤ W'.heap.size ∧ (∀ j, j < W3.heap.size → j ≠ Bok → j ≠ W2.heap.size → j ≠ W2.heap.size + 1 → W'.heap[j]? = W3.heap[j]?) ∧ W'.os = W3.os ∧ W'.tape = W3.tape ∧ W'.output = W3.output :=
        ⟨by omega, fun j hj a1 a2 a3 => (k5 j a1 a3 a2).trans (h6 j hj a1 a2 a3), k6.trans h7, k7.trans h8, k8.trans h9⟩
      have hKF : KeepsFrom W3.heap.size W1 W' := ⟨by omega, fun k o hk ho _ => by rw [k5 k (by have := hbo.lt; omega) (by omega) (by omega)]; exact ho⟩
      have hb' : pre ++ [x] = F.take (pre ++ [x]).length → (b && (eqS x.f (reg F pre.length).f && eqS x.v (reg F pre.length).v)) = true := fun h => by
        rw [List.length_append, List.length_singleton, take_reg F _ hlen] at h
        obtain ⟨e1, e2⟩ := List.append_inj h (by simp; omega)
        have e3 : x = reg F pre.length := by simpa using e2
        have e4 : b = true := h2 e1
        rw [e4, ← e3, eqS_iff.2 rfl, eqS_iff.2 rfl]; rfl
      cases hdec : decide (F.length < 2 * pre.length + 2)
      · rw [hdec] at k2
        refine .inl ⟨rfl, ⟨⟨⟨_, k1, hb'⟩, k2, ?_⟩, hRel⟩, ⟨by omega, fun k o hk _ ho _ => by rw [k5 k (by have := hbo.lt; omega) (by omega) (by omega)]; exact ho, fun _ h => h.elim⟩, hKF⟩
        rw [List.length_append, List.length_singleton, show 2 * (pre.length + 1) = 2 * pre.length + 2 by omega]
        exact k3
      · exact .inr ⟨rfl, ⟨⟨_, k1, hb'⟩, hRel⟩, hKF⟩
  · rintro e W' ⟨he, h⟩
    rw [hF] at h
    rcases h with ⟨⟨⟨b, h1, h2⟩, _, _⟩, hR⟩ | ⟨k, hk, ⟨b, h1, h2⟩, hR⟩
    · rw [h2 (by simp)] at h1
      exact ⟨he, h1, hR⟩
    · rw [h2 (by rw [List.length_take]; rcases Nat.le_total k F.length with h | h; rw [Nat.min_eq_left h]; rw [Nat.min_eq_right h, List.take_of_length_le h, List.take_of_length_le (Nat.le_refl _)])] at h1
      exact ⟨he, h1, hR⟩

set_option maxRecDepth 100000 in
set_option maxHeartbeats 2000000 in
theorem fieldsP_any (pw g i cap len p n M : Nat) (v : Value) (nb : ByteArray → Nat) (l : List Reg) (name : ByteArray) (w : World) (hw : w.cell? ⟨pw, 0, none⟩ = some (.slice (some ⟨g, 0, none⟩) len cap)) (hi : i < len) (_hlen : len ≤ 100000) (hp : w.cell? ⟨g, i, none⟩ = some (.pointer (some ⟨p, 0, none⟩)))
    (hv : ∃ r, v = .map r) (hc : w.cell? ⟨p, 1, none⟩ = some v) (hB : BookAt w v M nb l n) (hS : SortedB l) (hs : name.size ≤ maxLen) (hn : n ≤ 100000) (hll : l.length ≤ 100000) :
    Calls Tryz.prog 18 #[.pointer (some ⟨pw, 0, none⟩), .int .i64 i, .string name] w
      fun e w' => ∃ rv, e = .returned (.tuple #[rv, .bool true]) ∧ w'.ownsRow w.heap.size 9 1 rv (txF (fieldsL l name)).length ((txF (fieldsL l name)).map Value.string) ∧ Below w.heap.size w w' := by
  have l1 := lt_of_cell hw
  have l2 := lt_of_cell hp
  have l3 := lt_of_cell hc
  obtain ⟨r0, rfl⟩ := hv
  refine (callsIn_wide (n := 20)).1 ?_
  refine callsIn_of_wp_marks Tryz.func18 rfl trivial ?_ rfl
  simp only [Tryz.ntmps18, List.size_toArray, List.length_cons, List.length_nil, Nat.reduceAdd, Nat.reduceSub, Array.replicate_succ, Array.replicate_zero, List.push_toArray, List.append_toArray, List.nil_append, List.cons_append]
  gi_wp2_with (refine ⟨trivial, ?_⟩; gi_at_call 44; refine (callsIn_wide.2 (fieldsC_any (some ⟨p, 0, none⟩) name _)).mono ?_; rintro e w' ⟨rfl, rfl⟩)
  have hbl : Boxed ((((w.alloc (.cells #[.slice none 0 0] 52)).alloc (.cells #[.bool true] 4)).alloc (.cells #[.pointer (some ⟨p, 0, none⟩)] 67)).alloc (.cells #[.string name] 9)) w.heap.size 52 (.slice none 0 0) := (((Boxed.new w _ _).alloc _).alloc _).alloc _
  have hbo : Boxed ((((w.alloc (.cells #[.slice none 0 0] 52)).alloc (.cells #[.bool true] 4)).alloc (.cells #[.pointer (some ⟨p, 0, none⟩)] 67)).alloc (.cells #[.string name] 9)) (w.heap.size + 1) 4 (.bool true) := by
    have := ((Boxed.new (w.alloc (.cells #[.slice none 0 0] 52)) 4 (.bool true)).alloc (.cells #[.pointer (some ⟨p, 0, none⟩)] 67)).alloc (.cells #[.string name] 9)
    rw [World.size_alloc] at this
    exact this
  have hbr : Boxed ((((w.alloc (.cells #[.slice none 0 0] 52)).alloc (.cells #[.bool true] 4)).alloc (.cells #[.pointer (some ⟨p, 0, none⟩)] 67)).alloc (.cells #[.string name] 9)) (w.heap.size + 1 + 1) 67 (.pointer (some ⟨p, 0, none⟩)) := by
    have := (Boxed.new ((w.alloc (.cells #[.slice none 0 0] 52)).alloc (.cells #[.bool true] 4)) 67 (.pointer (some ⟨p, 0, none⟩))).alloc (.cells #[.string name] 9)
    rw [World.size_alloc, World.size_alloc] at this
    exact this
  have hbn : Boxed ((((w.alloc (.cells #[.slice none 0 0] 52)).alloc (.cells #[.bool true] 4)).alloc (.cells #[.pointer (some ⟨p, 0, none⟩)] 67)).alloc (.cells #[.string name] 9)) (w.heap.size + 1 + 1 + 1) 9 (.string name) := by
    have := Boxed.new (((w.alloc (.cells #[.slice none 0 0] 52)).alloc (.cells #[.bool true] 4)).alloc (.cells #[.pointer (some ⟨p, 0, none⟩)] 67)) 9 (.string name)
    rw [World.size_alloc, World.size_alloc, World.size_alloc] at this
    exact this
  have hbw : Below w.heap.size w ((((w.alloc (.cells #[.slice none 0 0] 52)).alloc (.cells #[.bool true] 4)).alloc (.cells #[.pointer (some ⟨p, 0, none⟩)] 67)).alloc (.cells #[.string name] 9)) := ((((Below.refl _ w).alloc (Nat.le_refl _) _).alloc (by simp) _).alloc (by simp; omega) _).alloc (by simp; omega) _
  obtain ⟨wl, hwl⟩ : ∃ wl, ((((w.alloc (.cells #[.slice none 0 0] 52)).alloc (.cells #[.bool true] 4)).alloc (.cells #[.pointer (some ⟨p, 0, none⟩)] 67)).alloc (.cells #[.string name] 9)) = wl := ⟨_, rfl⟩
  have HWL : Hid (wl.heap.size = w.heap.size + 4) := by rw [← hwl]; simp [Hid]
  have hwle : w.heap.size + 4 ≤ wl.heap.size := by rw [HWL.out]; exact Nat.le_refl _
  rw [hwl] at hbl hbo hbr hbn hbw ⊢
  clear hwl
  obtain ⟨i0, hti, hz0, hz1, hz2⟩ := info_parts Tryz.infoStr
  have hfp := fpBox_ok hbl
  have hcl : wl.cell? ⟨p, 1, none⟩ = some (.map r0) := (hbw.cell (p := ⟨p, 1, none⟩) l3).trans hc
  have hBl := hB.below hbw
  obtain ⟨F, hF⟩ : ∃ F, fieldsL l name = F := ⟨_, rfl⟩
  have hFl : F.length ≤ 100000 := by rw [← hF]; exact Nat.le_trans (List.length_filter_le _ _) hll
  have HC : Hid (w.cell? ⟨p, 1, none⟩ = some (.map r0)) := hc
  have HB : Hid (BookAt w (.map r0) M nb l n) := hB
  clear hw hp hc hB
  refine range_tells (α := Reg) (by omega) (gf := 67) (lb := #[.pointer (some ⟨w.heap.size + 1 + 1, 0, none⟩), .pointer (some ⟨w.heap.size + 1 + 1 + 1, 0, none⟩)]) rfl (enters_of Tryz.func67 (by kernel_rfl) rfl)
    (encs := fun x => #[.string x.f, .string x.v]) (fun _ => rfl) (fpBox w.heap.size) hfp.kept
    (fun pre W => (∃ rv, Boxed W w.heap.size 52 rv ∧ W.ownsRow wl.heap.size 9 1 rv (txF pre).length ((txF pre).map Value.string) ∧ (rv = .slice none 0 0 ↔ pre = [])) ∧ wl.grownBy W (some w.heap.size))
    (OwnFrom.and (Own.from (holdsRow_own wl.heap.size w.heap.size 52 9 1 (fun pre => (txF pre).length) (fun pre => (txF pre).map Value.string) (fun pre rv => rv = .slice none 0 0 ↔ pre = [])) _) (ownFrom_grown _ _))
    ⟨⟨_, hbl, World.ownsRow_nil _ _ _ _, by simp⟩, ⟨rfl, rfl, rfl, Nat.le_refl _, fun _ _ _ => rfl⟩⟩
    (fun x => { tmps := #[.pointer (some ⟨pw, 0, none⟩), .int .i64 i, .string name, undef, undef, undef, .slice none 0 0, .bool false, .pointer (some ⟨w.heap.size, 0, none⟩), .pointer (some ⟨w.heap.size + 1, 0, none⟩), .func (.func 67) #[] #[.pointer (some ⟨w.heap.size + 1 + 1, 0, none⟩), .pointer (some ⟨w.heap.size + 1 + 1 + 1, 0, none⟩)], .string x.f, .string x.v, undef, undef, .pointer (some ⟨pw, 0, none⟩), .pointer (some ⟨pw, 0, none⟩), .pointer (some ⟨pw, 0, none⟩), .slice (some ⟨g, 0, none⟩) len cap, .int .i64 i, .pointer (some ⟨g, i, none⟩), .pointer (some ⟨p, 0, none⟩), .string name, .func (.func 67) #[] #[.pointer (some ⟨w.heap.size + 1 + 1, 0, none⟩), .pointer (some ⟨w.heap.size + 1 + 1 + 1, 0, none⟩)], .func (.func 67) #[] #[.pointer (some ⟨w.heap.size + 1 + 1, 0, none⟩), .pointer (some ⟨w.heap.size + 1 + 1 + 1, 0, none⟩)], .string x.f, .string x.v, undef, undef, undef, undef, undef, undef, undef, undef, undef, undef], defers := [] })
    F ?assign ?body ?call ?done
  case assign =>
    intro lq m x W K hK
    gi_wp2
    simpa using hK
  case body =>
    rintro lq m pre x W ⟨⟨rv, hb, hrow, hnil⟩, hgr⟩ hlen'
    have hc := hb.cell
    have hsz := hgr.size
    have hlt2 : (txF pre).length ≤ 199998 := by rw [txF_len]; omega
    gi_wp2_with (gi_at_builtin; refine wpListIn_append_own_at _ rfl _ _ 52 rfl wl.heap.size 9 i0 _ 1 16 Tryz.underlying52 hti hz0 hz1 hz2 rfl (by decide) _ _ _ rfl (hrow.alloc _) ⟨W.heap.size, 0, none⟩ 2 2 [.string x.f, .string x.v] rfl rfl (news_new W [.string x.f, .string x.v] _) (by simp [Value.oneCell']) (by unfold maxLen; omega) (by omega) (by simp; omega) ?_; intro v' w1 hown' hgrow _ hob; obtain ⟨g', cap', rfl⟩ := ownsRow_succ hown'; obtain ⟨hv1, hv2, hr2, hk2, hb2⟩ := hb.appended (by decide) (ownsRow_base hrow (show w.heap.size ≤ wl.heap.size by omega)) (by omega) (Nat.le_refl _) (ownsRow_base hown' (show w.heap.size ≤ wl.heap.size by omega)) hgrow; have hc1 := hv1.cell; have hf1 := hv1.frozen)
    refine ⟨(keepC_appended hb hk2 hgrow hv2 hob).2, ⟨_, hv2, ?_, by simp⟩, grown_appended hgr hgrow (fun k e => (hrow.lt k e).1)⟩
    rw [txF_snoc, List.map_append, List.length_append]
    exact hown'.kept (grownBy_setCell' w1 w.heap.size _) (.inr (hv1.not_row (by decide) hown').symm)
  case call =>
    intro J W1 hb1 hs1 hJ hJ0 hY
    have hbl1 : Boxed W1 w.heap.size 52 (.slice none 0 0) := (hb1.block _ (by omega)).trans hbl
    have hbr1 : Boxed W1 (w.heap.size + 1 + 1) 67 (.pointer (some ⟨p, 0, none⟩)) := (hb1.block _ (by omega)).trans hbr
    have hbn1 : Boxed W1 (w.heap.size + 1 + 1 + 1) 9 (.string name) := (hb1.block _ (by omega)).trans hbn
    have hc1 : W1.cell? ⟨p, 1, none⟩ = some (.map r0) := (hb1.cell (p := ⟨p, 1, none⟩) (show p < _ by omega)).trans hcl
    have h65 := fields1_any (.yield (wl.heap.size + 1)) #[] (20 - 1) (by omega) (w.heap.size + 1 + 1) (w.heap.size + 1 + 1 + 1) p n M (.map r0) nb l name W1 ⟨r0, rfl⟩ hbr1.cell hbn1.cell hc1 (hBl.below hb1) hS hs hn hll (fpBox w.heap.size) (fpBox_ok hbl1) J (fun _ _ => False) hJ (fun _ _ _ _ h _ _ => h) hJ0
      (.inl ⟨_, rfl, rfl, fun m pre x X hX hl => (hY m pre x X hX (by rw [← hF]; exact hl)).mono (fun e W' h => .inl h)⟩)
    rw [hF] at h65
    exact h65.mono (fun e W' h => ⟨h.1, h.2.elim id (fun ⟨_, _, h⟩ => h.elim)⟩)
  case done =>
    rintro D W2 hD ⟨⟨rv, hb, hrow, hnil⟩, hgr⟩ hK
    have hbo2 : Boxed W2 (w.heap.size + 1) 4 (.bool true) := hbo.kept hgr (fun e => by have := Option.some.inj e; omega)
    have hbr2 : Boxed W2 (w.heap.size + 1 + 1) 67 (.pointer (some ⟨p, 0, none⟩)) := hbr.kept hgr (fun e => by have := Option.some.inj e; omega)
    have hbn2 : Boxed W2 (w.heap.size + 1 + 1 + 1) 9 (.string name) := hbn.kept hgr (fun e => by have := Option.some.inj e; omega)
    have hb2 : Below w.heap.size w W2 := hbw.trans (((Below.refl _ _).grown hgr (by omega) (fun k e => by cases e; exact Nat.le_refl _)))
    have hc2 : W2.cell? ⟨p, 1, none⟩ = some (.map r0) := (hb2.cell (p := ⟨p, 1, none⟩) l3).trans HC.out
    have hs2 := hgr.size
    clear hbl hbo hbr hbn hbw hfp hcl hBl hgr
    gi_wp2
    refine ⟨trivial, ?_⟩
    obtain ⟨W3, hW3⟩ : ∃ W3, (W2.alloc (.cells #[.int .i64 0] 3)).alloc (.cells #[.bool false] 4) = W3 := ⟨_, rfl⟩
    have h65 := second_any w.heap.size (w.heap.size + 1) (w.heap.size + 1 + 1) (w.heap.size + 1 + 1 + 1) p n M r0 nb l name W2 W3 hW3 F hF hFl wl.heap.size (by omega) (by omega) (by omega) (by omega) rv hb hrow hbo2 hbr2.cell hbn2.cell hc2 (HB.out.below hb2) hS hs hn hll
    have hsz3 : W3.heap.size = W2.heap.size + 2 := by rw [← hW3]; simp
    have hb3 : ∀ j, j < W2.heap.size → W3.heap[j]? = W2.heap[j]? := fun j hj => by rw [← hW3, Below.heap_alloc _ _ _ (by simp; omega), Below.heap_alloc _ _ _ hj]
    have HW3 : Hid (W3.os = W2.os ∧ W3.tape = W2.tape ∧ W3.output = W2.output ∧ W3.heap.size = W2.heap.size + 2) := ⟨by rw [← hW3]; rfl, by rw [← hW3]; rfl, by rw [← hW3]; rfl, hsz3⟩
    rw [hW3]
    clear hW3 hsz3
    refine (callsIn_wide.2 h65).mono ?_
    rintro e W4 ⟨⟨v4, rfl⟩, hbo4, hs4, hbk4, ho4, ht4, hu4⟩
    have hDl := (Array.getElem?_eq_some_iff.1 hK).1
    have hgl : ∀ j, j < W2.heap.size → j ≠ w.heap.size + 1 → W4.heap[j]? = W2.heap[j]? := fun j hj hne => by
      rw [hbk4 j (by rw [HW3.out.2.2.2]; omega) hne (by omega) (by omega)]; exact hb3 j hj
    have hK4 : W4.heap[D]? = some (.deferred (some [])) := (hgl D hDl (by omega)).trans hK
    have hb4 : Boxed W4 w.heap.size 52 rv := (hgl _ (by omega) (by omega)).trans hb
    have hrow4 : W4.ownsRow wl.heap.size 9 1 rv (txF F).length ((txF F).map Value.string) := by
      refine ⟨hrow.1, ?_⟩
      rcases hrow.2 with h0 | ⟨g', cap', cur, q1, q2, q3, q4⟩
      · exact .inl h0
      · exact .inr ⟨g', cap', cur, q1, q2, (hgl g' (Array.getElem?_eq_some_iff.1 q3).1 (by omega)).trans q3, q4⟩
    have hbel4 : Below w.heap.size w W4 := hb2.trans ⟨by rw [ho4, HW3.out.1], by rw [ht4, HW3.out.2.1], by rw [hu4, HW3.out.2.2.1], by rw [HW3.out.2.2.2] at hs4; omega, fun j hj => hgl j (by omega) (by omega)⟩
    have c4 := hb4.cell
    have c5 := hbo4.cell
    obtain ⟨ra, rcap, rfl⟩ := ownsRow_shape hrow4
    clear hgl hb3 HW3 hbk4 h65 hs4
    have hrow5 : (W4.putObj D (.deferred none)).ownsRow wl.heap.size 9 1 (.slice ra (txF F).length rcap) (txF F).length ((txF F).map Value.string) := ownsRow_putObj hrow4 _ hK4 rfl
    have hbel5 : Below w.heap.size w (W4.putObj D (.deferred none)) := hbel4.trans (belowK_b (w := w) (Nat.le_refl _) W4 D _ _ (by omega) hK4 rfl rfl)
    have HR5 : Hid ((W4.drew.putObj D (.deferred none)).ownsRow wl.heap.size 9 1 (.slice ra (txF F).length rcap) (txF F).length ((txF F).map Value.string) ∧ Below w.heap.size w (W4.drew.putObj D (.deferred none))) := ⟨⟨hrow5.1, hrow5.2⟩, ⟨hbel5.os, hbel5.tape, hbel5.output, hbel5.size, hbel5.block⟩⟩
    have HKd : Hid (W4.drew.heap[D]? = some (.deferred (some []))) := hK4
    clear hrow5 hbel5 hK4 hrow4 hbel4 hrow
    gi_wp2
    refine wpIn_noexit ?_
    gi_region
    all_goals gi_wp2
    all_goals refine ⟨by simp, .inl ⟨_, _, rfl, run_takeDeferred HKd.out, ?_⟩⟩
    all_goals refine ⟨.tuple #[.slice ra (txF F).length rcap, .bool true], ?_, _, rfl, ?_, HR5.out.2⟩
    all_goals first | (rw [hF]; exact ownsRow_base HR5.out.1 (by omega)) | (simp [results, Tryz.f18, go_sem])
end Go.Proofs.YtjhlijobdihplaaGreatDoor
