import Derived.Test.YtdfafhclhfijnaaGreatDoorI8
namespace Go.Proofs.YtdfafhclhfijnaaGreatDoor
open Go.RowKit Go.Maps Go.Shelf Go.Lib Go.Extern

theorem three_set {W : World} {A B C : Nat} {t1 t2 t3 : TypeId} {a b c : Value} (hA : Boxed W A t1 a) (hB : Boxed W B t2 b) (hC : Boxed W C t3 c) (d1 : A ≠ B) (d2 : A ≠ C) (d3 : B ≠ C) (a' b' c' : Value) :
    Boxed (((W.setCell ⟨A, 0, none⟩ a').setCell ⟨B, 0, none⟩ b').setCell ⟨C, 0, none⟩ c') A t1 a' ∧ Boxed (((W.setCell ⟨A, 0, none⟩ a').setCell ⟨B, 0, none⟩ b').setCell ⟨C, 0, none⟩ c') B t2 b' ∧
    Boxed (((W.setCell ⟨A, 0, none⟩ a').setCell ⟨B, 0, none⟩ b').setCell ⟨C, 0, none⟩ c') C t3 c' ∧ (((W.setCell ⟨A, 0, none⟩ a').setCell ⟨B, 0, none⟩ b').setCell ⟨C, 0, none⟩ c').heap.size = W.heap.size ∧
    (∀ j, j ≠ A → j ≠ C → j ≠ B → (((W.setCell ⟨A, 0, none⟩ a').setCell ⟨B, 0, none⟩ b').setCell ⟨C, 0, none⟩ c').heap[j]? = W.heap[j]?) := by
  have h1 := hA.set a'
  have h2 := (hB.other (fun e => d1 e.symm) a').set b'
  have h3 := ((hC.other (fun e => d2 e.symm) a').other (fun e => d3 e.symm) b').set c'
  refine ⟨(h1.other d1 b').other d2 c', h2.other d3 c', h3, by simp [World.setCell], fun j j1 j2 j3 => ?_⟩
  rw [Below.heap_setCell _ _ _ j j2, Below.heap_setCell _ _ _ j j3, Below.heap_setCell _ _ _ j j1]

set_option maxRecDepth 100000 in
set_option maxHeartbeats 2000000 in
theorem told_any (Bok Bno Bk Bl g cap N k : Nat) (b : Bool) (f v yf yv : ByteArray) (W : World) (hok : Boxed W Bok 4 (.bool b)) (hno : Boxed W Bno 4 (.bool false)) (hk : Boxed W Bk 3 (.int .i64 (2 * k : Nat)))
    (hl : W.cell? ⟨Bl, 0, none⟩ = some (.slice (some ⟨g, 0, none⟩) (2 * N) cap)) (h0 : W.cell? ⟨g, 2 * k, none⟩ = some (.string yf)) (h1 : W.cell? ⟨g, 2 * k + 1, none⟩ = some (.string yv)) (hkN : k < N) (hN : N ≤ 100000)
    (d1 : Bok ≠ Bno) (d2 : Bok ≠ Bk) (d3 : Bno ≠ Bk) (d4 : Bok ≠ Bl) (d5 : Bno ≠ Bl) (d6 : Bk ≠ Bl) (d7 : Bok ≠ g) (d8 : Bno ≠ g) (d9 : Bk ≠ g) :
    Calls Tryz.prog 43 #[.string f, .string v, .pointer (some ⟨Bok, 0, none⟩), .pointer (some ⟨Bno, 0, none⟩), .pointer (some ⟨Bk, 0, none⟩), .pointer (some ⟨Bl, 0, none⟩)] W
      fun e W' => e = .returned (.bool (!decide (N < 2 * k + 2))) ∧ Boxed W' Bok 4 (.bool (b && (eqS f yf && eqS v yv))) ∧ Boxed W' Bno 4 (.bool (decide (N < 2 * k + 2))) ∧ Boxed W' Bk 3 (.int .i64 (2 * k + 2 : Nat)) ∧
        W'.heap.size = W.heap.size ∧ (∀ j, j ≠ Bok → j ≠ Bno → j ≠ Bk → W'.heap[j]? = W.heap[j]?) ∧ W'.os = W.os ∧ W'.tape = W.tape ∧ W'.output = W.output := by
  have c1 := hok.cell
  have c2 := hno.cell
  have c3 := hk.cell
  have f1 := hok.frozen
  have f2 := hno.frozen
  have f3 := hk.frozen
  have eN : decide ((N : Int) < 2 * (k : Int) + 2) = decide (N < 2 * k + 2) := decide_eq_decide.2 (by omega)
  have hfin : ∀ bb : Bool, Boxed (((W.setCell ⟨Bok, 0, none⟩ (.bool bb)).setCell ⟨Bk, 0, none⟩ (.int .i64 (2 * (k : Int) + 2))).setCell ⟨Bno, 0, none⟩ (.bool (decide ((N : Int) < 2 * (k : Int) + 2)))) Bok 4 (.bool bb) ∧
      Boxed (((W.setCell ⟨Bok, 0, none⟩ (.bool bb)).setCell ⟨Bk, 0, none⟩ (.int .i64 (2 * (k : Int) + 2))).setCell ⟨Bno, 0, none⟩ (.bool (decide ((N : Int) < 2 * (k : Int) + 2)))) Bk 3 (.int .i64 (2 * (k : Int) + 2)) ∧
      Boxed (((W.setCell ⟨Bok, 0, none⟩ (.bool bb)).setCell ⟨Bk, 0, none⟩ (.int .i64 (2 * (k : Int) + 2))).setCell ⟨Bno, 0, none⟩ (.bool (decide ((N : Int) < 2 * (k : Int) + 2)))) Bno 4 (.bool (decide ((N : Int) < 2 * (k : Int) + 2))) ∧
      (((W.setCell ⟨Bok, 0, none⟩ (.bool bb)).setCell ⟨Bk, 0, none⟩ (.int .i64 (2 * (k : Int) + 2))).setCell ⟨Bno, 0, none⟩ (.bool (decide ((N : Int) < 2 * (k : Int) + 2)))).heap.size = W.heap.size ∧
      (∀ j, j ≠ Bok → j ≠ Bno → j ≠ Bk → (((W.setCell ⟨Bok, 0, none⟩ (.bool bb)).setCell ⟨Bk, 0, none⟩ (.int .i64 (2 * (k : Int) + 2))).setCell ⟨Bno, 0, none⟩ (.bool (decide ((N : Int) < 2 * (k : Int) + 2)))).heap[j]? = W.heap[j]?) :=
    fun bb => three_set hok hk hno d2 d1 (fun e => d3 e.symm) _ _ _
  have HF : Hid (∀ bb : Bool, (∀ be, be = bb → ∀ bn : Bool, bn = !decide ((N : Int) < 2 * (k : Int) + 2) → (Ending.returned (.bool bn) = Ending.returned (.bool (!decide (N < 2 * k + 2))) ∧ Boxed (((W.setCell ⟨Bok, 0, none⟩ (.bool bb)).setCell ⟨Bk, 0, none⟩ (.int .i64 (2 * (k : Int) + 2))).setCell ⟨Bno, 0, none⟩ (.bool (decide ((N : Int) < 2 * (k : Int) + 2)))) Bok 4 (.bool be) ∧ Boxed (((W.setCell ⟨Bok, 0, none⟩ (.bool bb)).setCell ⟨Bk, 0, none⟩ (.int .i64 (2 * (k : Int) + 2))).setCell ⟨Bno, 0, none⟩ (.bool (decide ((N : Int) < 2 * (k : Int) + 2)))) Bno 4 (.bool (decide (N < 2 * k + 2))) ∧ Boxed (((W.setCell ⟨Bok, 0, none⟩ (.bool bb)).setCell ⟨Bk, 0, none⟩ (.int .i64 (2 * (k : Int) + 2))).setCell ⟨Bno, 0, none⟩ (.bool (decide ((N : Int) < 2 * (k : Int) + 2)))) Bk 3 (.int .i64 (2 * k + 2 : Nat)) ∧
        (((W.setCell ⟨Bok, 0, none⟩ (.bool bb)).setCell ⟨Bk, 0, none⟩ (.int .i64 (2 * (k : Int) + 2))).setCell ⟨Bno, 0, none⟩ (.bool (decide ((N : Int) < 2 * (k : Int) + 2)))).heap.size = W.heap.size ∧ (∀ j, j ≠ Bok → j ≠ Bno → j ≠ Bk → (((W.setCell ⟨Bok, 0, none⟩ (.bool bb)).setCell ⟨Bk, 0, none⟩ (.int .i64 (2 * (k : Int) + 2))).setCell ⟨Bno, 0, none⟩ (.bool (decide ((N : Int) < 2 * (k : Int) + 2)))).heap[j]? = W.heap[j]?)))) := by
    intro bb be hbe bn hbn
    subst hbe hbn
    obtain ⟨q1, q2, q3, q4, q5⟩ := hfin be
    have ek : ((2 * k + 2 : Nat) : Int) = 2 * (k : Int) + 2 := by omega
    rw [ek, ← eN]
    exact ⟨rfl, q1, q3, q2, q4, q5⟩
  clear hfin hok hno hk
  cases b with
  | false =>
    clear eN
    go_enter Tryz.func43, Tryz.ntmps43
    go_wp2
    go_ret
    obtain ⟨q1, q2, q3, q4, q5, q6⟩ := HF.out false _ rfl _ rfl
    exact ⟨q1, q2, q3, q4, q5, q6, rfl, rfl, rfl⟩
  | true =>
    clear eN
    unfold eqS
    cases hx : (f.toList == yf.toList)
    · go_enter Tryz.func43, Tryz.ntmps43
      go_wp2
      go_ret
      obtain ⟨q1, q2, q3, q4, q5, q6⟩ := HF.out false _ rfl _ rfl
      exact ⟨q1, q2, q3, q4, q5, q6, rfl, rfl, rfl⟩
    · cases hy : (v.toList == yv.toList)
      · go_enter Tryz.func43, Tryz.ntmps43
        go_wp2
        go_ret
        obtain ⟨q1, q2, q3, q4, q5, q6⟩ := HF.out false _ rfl _ rfl
        exact ⟨q1, q2, q3, q4, q5, q6, rfl, rfl, rfl⟩
      · go_enter Tryz.func43, Tryz.ntmps43
        go_wp2
        go_ret
        obtain ⟨q1, q2, q3, q4, q5, q6⟩ := HF.out true _ rfl _ rfl
        exact ⟨q1, q2, q3, q4, q5, q6, rfl, rfl, rfl⟩
end Go.Proofs.YtdfafhclhfijnaaGreatDoor
