import Derived.Test.YtjhlijobdihplaaGreatDoorM09
import Derived.Test.YtjhlijobdihplaaGreatDoorM13
namespace Go.Proofs.YtjhlijobdihplaaGreatDoor
open Go.RowKit Go.Maps Go.Shelf Go.Lib Go.Extern

/-- a box that holds true, if p -/
def OkBox (X : World) (B : Nat) (p : Prop) : Prop := ∃ bb, Boxed X B 4 (.bool bb) ∧ (p → bb = true)

theorem told_fin {W : World} {Bok Bno Bk N k : Nat} {b : Bool} (hok : Boxed W Bok 4 (.bool b)) (hno : Boxed W Bno 4 (.bool false)) (hk : Boxed W Bk 3 (.int .i64 k)) (d1 : Bok ≠ Bno) (d2 : Bok ≠ Bk) (d3 : Bno ≠ Bk) (o : Obj) (bb : Bool) {X : World}
    (hX : X = ((((W.setCell ⟨Bok, 0, none⟩ (.bool bb)).setCell ⟨Bk, 0, none⟩ (.int .i64 ((k : Int) + 1))).setCell ⟨Bno, 0, none⟩ (.bool (decide ((N : Int) / 2 < (k : Int) + 1)))).alloc o).drew) (p : Prop) (hp : p → bb = true) :
    Ending.returned (.bool (!decide ((N : Int) / 2 < (k : Int) + 1))) = Ending.returned (.bool (!decide (N / 2 < k + 1))) ∧ OkBox X Bok p ∧ Boxed X Bno 4 (.bool (decide (N / 2 < k + 1))) ∧ Boxed X Bk 3 (.int .i64 (k + 1 : Nat)) ∧
        X.heap.size = W.heap.size + 1 ∧ (∀ j, j < W.heap.size → j ≠ Bok → j ≠ Bno → j ≠ Bk → X.heap[j]? = W.heap[j]?) ∧ X.os = W.os ∧ X.tape = W.tape ∧ X.output = W.output := by
  subst hX
  have eN : decide ((N : Int) / 2 < (k : Int) + 1) = decide (N / 2 < k + 1) := decide_eq_decide.2 (by omega)
  have ek : ((k + 1 : Nat) : Int) = (k : Int) + 1 := by omega
  rw [eN, ek]
  obtain ⟨q1, q2, q3, q4, q5⟩ := three_set hok hk hno d2 d1 (fun e => d3 e.symm) (.bool bb) (.int .i64 ((k : Int) + 1)) (.bool (decide (N / 2 < k + 1)))
  refine ⟨rfl, ⟨bb, q1.alloc _, hp⟩, q3.alloc _, q2.alloc _, ?_, ?_, rfl, rfl, rfl⟩
  · show (World.alloc _ _).heap.size = _
    rw [World.size_alloc, q4]
  · intro j hj j1 j2 j3
    show (World.alloc _ _).heap[j]? = _
    rw [Below.heap_alloc _ _ _ (by rw [q4]; exact hj)]
    exact q5 j j1 j2 j3

set_option maxRecDepth 100000 in
set_option maxHeartbeats 4000000 in
/-- the second going over plain.Registers: one round -/
theorem toldR_any (Bok Bno Bk Bl g cap N k : Nat) (b : Bool) (x y : Reg) (W : World) (hok : Boxed W Bok 4 (.bool b)) (hno : Boxed W Bno 4 (.bool false)) (hk : Boxed W Bk 3 (.int .i64 k))
    (hl : W.cell? ⟨Bl, 0, none⟩ = some (.slice (some ⟨g, 0, none⟩) N cap)) (h0 : W.cell? ⟨g, k * 5, none⟩ = some (.string y.n)) (h1 : W.cell? ⟨g, k * 5 + 1, none⟩ = some (.string y.f)) (h2 : W.cell? ⟨g, k * 5 + 2, none⟩ = some (.int .i64 y.c)) (h3 : W.cell? ⟨g, k * 5 + 3, none⟩ = some (.int .i64 y.r)) (h4 : W.cell? ⟨g, k * 5 + 4, none⟩ = some (.string y.v)) (hkN : k < N) (hN : N ≤ 100000)
    (d1 : Bok ≠ Bno) (d2 : Bok ≠ Bk) (d3 : Bno ≠ Bk) (d4 : Bok ≠ Bl) (d5 : Bno ≠ Bl) (d6 : Bk ≠ Bl) (d7 : Bok ≠ g) (d8 : Bno ≠ g) (d9 : Bk ≠ g) :
    Calls Tryz.prog 71 #[.agg #[.string x.n, .string x.f, .int .i64 x.c, .int .i64 x.r, .string x.v], .pointer (some ⟨Bok, 0, none⟩), .pointer (some ⟨Bno, 0, none⟩), .pointer (some ⟨Bk, 0, none⟩), .pointer (some ⟨Bl, 0, none⟩)] W
      fun e W' => e = .returned (.bool (!decide (N / 2 < k + 1))) ∧ OkBox W' Bok (b = true ∧ x = y) ∧ Boxed W' Bno 4 (.bool (decide (N / 2 < k + 1))) ∧ Boxed W' Bk 3 (.int .i64 (k + 1 : Nat)) ∧
        W'.heap.size = W.heap.size + 1 ∧ (∀ j, j < W.heap.size → j ≠ Bok → j ≠ Bno → j ≠ Bk → W'.heap[j]? = W.heap[j]?) ∧ W'.os = W.os ∧ W'.tape = W.tape ∧ W'.output = W.output := by
  have c1 := hok.cell
  have c2 := hno.cell
  have c3 := hk.cell
  have f1 := hok.frozen
  have f2 := hno.frozen
  have f3 := hk.frozen
  have l1 := hok.lt
  have l2 := hno.lt
  have l3 := hk.lt
  have l4 := lt_of_cell hl
  have l5 := lt_of_cell h0
  have HF : Hid (_ ∧ _ ∧ _) := ⟨hok, hno, hk⟩
  clear hok hno hk
  go_enter Tryz.func71, Tryz.ntmps71
  go_wp2
  refine region_reads 19 (by kernel_rfl) (by kernel_rfl) ?_
  simp only [List.take_succ_cons, List.take_zero]
  cases b
  · repeat still_step
    refine wpStill_nil ?_
    refine wpAny_ready (rs := [19]) (by kernel_rfl) (by simp) ?_
    refine AllReady.cons rfl (fun K hK => ?_) AllReady.nil
    go_simp
    refine hK _ _ ?_
    clear hK K
    refine wpAny_done (by kernel_rfl) ?_ _
    go_wp2
    go_ret
    obtain ⟨q1, q2, q3, q4, q5, q6⟩ := told_fin (N := N) HF.out.1 HF.out.2.1 HF.out.2.2 d1 d2 d3 (.cells #[.string x.n, .string x.f, .int .i64 x.c, .int .i64 x.r, .string x.v] 99) false rfl (false = true ∧ x = y) (fun h => h.1)
    exact ⟨q1, q2, q3, q4, q5, q6⟩
  · cases e0 : (x.n.toList == y.n.toList)
    · repeat still_step
      refine wpStill_nil ?_
      refine wpAny_ready (rs := [19]) (by kernel_rfl) (by simp) ?_
      refine AllReady.cons rfl (fun K hK => ?_) AllReady.nil
      go_simp
      refine hK _ _ ?_
      clear hK K
      refine wpAny_done (by kernel_rfl) ?_ _
      go_wp2
      go_ret
      obtain ⟨q1, q2, q3, q4, q5, q6⟩ := told_fin (N := N) HF.out.1 HF.out.2.1 HF.out.2.2 d1 d2 d3 (.cells #[.string x.n, .string x.f, .int .i64 x.c, .int .i64 x.r, .string x.v] 99) false rfl (x = y) (fun h => by subst h; simp at e0)
      exact ⟨q1, q2, q3, q4, q5, q6⟩
    · cases e1 : (x.f.toList == y.f.toList)
      · repeat still_step
        refine wpStill_nil ?_
        refine wpAny_ready (rs := [19]) (by kernel_rfl) (by simp) ?_
        refine AllReady.cons rfl (fun K hK => ?_) AllReady.nil
        go_simp
        refine hK _ _ ?_
        clear hK K
        refine wpAny_done (by kernel_rfl) ?_ _
        go_wp2
        go_ret
        obtain ⟨q1, q2, q3, q4, q5, q6⟩ := told_fin (N := N) HF.out.1 HF.out.2.1 HF.out.2.2 d1 d2 d3 (.cells #[.string x.n, .string x.f, .int .i64 x.c, .int .i64 x.r, .string x.v] 99) false rfl (x = y) (fun h => by subst h; simp at e1)
        exact ⟨q1, q2, q3, q4, q5, q6⟩
      · cases e2 : (x.c == y.c)
        · repeat still_step
          refine wpStill_nil ?_
          refine wpAny_ready (rs := [19]) (by kernel_rfl) (by simp) ?_
          refine AllReady.cons rfl (fun K hK => ?_) AllReady.nil
          go_simp
          refine hK _ _ ?_
          clear hK K
          refine wpAny_done (by kernel_rfl) ?_ _
          go_wp2
          go_ret
          obtain ⟨q1, q2, q3, q4, q5, q6⟩ := told_fin (N := N) HF.out.1 HF.out.2.1 HF.out.2.2 d1 d2 d3 (.cells #[.string x.n, .string x.f, .int .i64 x.c, .int .i64 x.r, .string x.v] 99) false rfl (x = y) (fun h => by subst h; simp at e2)
          exact ⟨q1, q2, q3, q4, q5, q6⟩
        · cases e3 : (x.r == y.r)
          · repeat still_step
            refine wpStill_nil ?_
            refine wpAny_ready (rs := [19]) (by kernel_rfl) (by simp) ?_
            refine AllReady.cons rfl (fun K hK => ?_) AllReady.nil
            go_simp
            refine hK _ _ ?_
            clear hK K
            refine wpAny_done (by kernel_rfl) ?_ _
            go_wp2
            go_ret
            obtain ⟨q1, q2, q3, q4, q5, q6⟩ := told_fin (N := N) HF.out.1 HF.out.2.1 HF.out.2.2 d1 d2 d3 (.cells #[.string x.n, .string x.f, .int .i64 x.c, .int .i64 x.r, .string x.v] 99) false rfl (x = y) (fun h => by subst h; simp at e3)
            exact ⟨q1, q2, q3, q4, q5, q6⟩
          · cases e4 : (x.v.toList == y.v.toList)
            · repeat still_step
              refine wpStill_nil ?_
              refine wpAny_ready (rs := [19]) (by kernel_rfl) (by simp) ?_
              refine AllReady.cons rfl (fun K hK => ?_) AllReady.nil
              go_simp
              refine hK _ _ ?_
              clear hK K
              refine wpAny_done (by kernel_rfl) ?_ _
              go_wp2
              go_ret
              obtain ⟨q1, q2, q3, q4, q5, q6⟩ := told_fin (N := N) HF.out.1 HF.out.2.1 HF.out.2.2 d1 d2 d3 (.cells #[.string x.n, .string x.f, .int .i64 x.c, .int .i64 x.r, .string x.v] 99) false rfl (x = y) (fun h => by subst h; simp at e4)
              exact ⟨q1, q2, q3, q4, q5, q6⟩
            · repeat still_step
              refine wpStill_nil ?_
              refine wpAny_ready (rs := [19]) (by kernel_rfl) (by simp) ?_
              refine AllReady.cons rfl (fun K hK => ?_) AllReady.nil
              go_simp
              refine hK _ _ ?_
              clear hK K
              refine wpAny_done (by kernel_rfl) ?_ _
              go_wp2
              go_ret
              obtain ⟨q1, q2, q3, q4, q5, q6⟩ := told_fin (N := N) HF.out.1 HF.out.2.1 HF.out.2.2 d1 d2 d3 (.cells #[.string x.n, .string x.f, .int .i64 x.c, .int .i64 x.r, .string x.v] 99) true rfl (x = y) (fun _ => rfl)
              exact ⟨q1, q2, q3, q4, q5, q6⟩
end Go.Proofs.YtjhlijobdihplaaGreatDoor
