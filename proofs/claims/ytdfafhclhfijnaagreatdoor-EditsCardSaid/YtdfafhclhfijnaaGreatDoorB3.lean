import Derived.Test.YtdfafhclhfijnaaGreatDoorB2
import Derived.Laws.IdiomRangeMap
namespace Go.Proofs.YtdfafhclhfijnaaGreatDoor
open Go.RowKit Go.Maps

theorem invS : ∀ key kl, keyOf Tryz.prog 9 key = some kl → ∃ x, key = Value.string x := by
  intro key kl h
  cases key <;> simp [keyOf, Tryz.underlying9, mapKey] at h
  exact ⟨_, rfl⟩
theorem keyS {x : ByteArray} {kl : Lit} (h : keyOf Tryz.prog 9 (.string x) = some kl) : kl = keyL x ∧ x.size ≤ maxLen := by
  simp [keyOf, Tryz.underlying9, mapKey] at h
  exact ⟨h.2.symm, h.1⟩
theorem invOut : ∀ v y, Rout v = some y → ∃ b : Nat, v = .map (some b) := fun v y h => by obtain ⟨b, h, _⟩ := Rout_form h; exact ⟨b, h⟩
theorem invIn : ∀ v y, Rin v = some y → ∃ x : Reg, v = regV x := fun v y h => by obtain ⟨b, h, _⟩ := Rin_form h; exact ⟨b, h⟩

/-- what Next has met: nothing greater, and it is one of them -/
def Met1 (l : List Reg) (left : Lit → Bool) (g : Int) : Prop := 0 ≤ g ∧ (∀ y ∈ l, left (keyL y.n) = false → y.c ≤ g) ∧ (g = 0 ∨ ∃ y ∈ l, g = y.c)

set_option maxRecDepth 100000 in
set_option maxHeartbeats 1000000 in
theorem next_nil (p o : Nat) (w : World) (hc : w.cell? ⟨p, o, none⟩ = some (.map none)) :
    Calls Tryz.prog 78 #[.pointer (some ⟨p, o, none⟩)] w fun e w' => e = .returned (.int .i64 1) ∧ Below w.heap.size w w' := by
  have hrg := run_range_nilMap (P := Tryz.prog) w 104 9 149 Tryz.underlying104
  have hnx : ∀ ty, (Instr.next (.pointer (some ⟨w.heap.size, 0, none⟩)) false ty).run Tryz.prog (w.alloc (.mapIter none 0 #[] 0)) = _ := fun ty => run_next_nilMap w ty 0 0 #[]
  go_enter Tryz.func78, Tryz.ntmps78
  go_wp2
  refine wp_loop_rounds 1 ?_
  rw [rounds_succ]
  go_wp2
  go_ret
  exact ⟨rfl, (Below.refl _ _).alloc (Nat.le_refl _) _⟩

def Met2 (l : List Reg) (left : Lit → Bool) (x : ByteArray) (left2 : Lit → Bool) (g : Int) : Prop := 0 ≤ g ∧ (∀ y ∈ l, left (keyL y.n) = false → y.c ≤ g) ∧ (∀ y ∈ l, y.n = x → left2 (keyL y.f) = false → y.c ≤ g) ∧ (g = 0 ∨ ∃ y ∈ l, g = y.c)

theorem same_keyL {s t : ByteArray} : (keyL s).sameKey (keyL t) = true ↔ s = t := by
  rw [WideAt.sameKey_iff (keyL_ok t)]
  exact ⟨keyL_inj, fun h => by rw [h]⟩

theorem Met2.step {l : List Reg} {left left2 : Lit → Bool} {x f : ByteArray} {g : Int} {z : Reg} (h : Met2 l left x left2 g) (hs : SortedB l) (hz : getR l x f = some z) : Met2 l left x (fun q => left2 q && !q.sameKey (keyL f)) (max g z.c) := by
  obtain ⟨h0, h1, h2, h3⟩ := h
  obtain ⟨hm, hzn, hzf⟩ := getR_mem hz
  refine ⟨by omega, fun y hy hl => by have := h1 y hy hl; omega, fun y hy hx hl => ?_, ?_⟩
  · simp only [Bool.and_eq_false_iff, Bool.not_eq_false'] at hl
    rcases hl with hl | hl
    · have := h2 y hy hx hl; omega
    · have e := same_keyL.1 hl
      have a := getR_of_mem hs hy
      rw [hx, e, hz] at a
      cases a
      omega
  · by_cases hgz : g ≤ z.c
    · exact .inr ⟨z, hm, by omega⟩
    · rcases h3 with h3 | ⟨y, hy, h3⟩
      · exact .inl (by omega)
      · exact .inr ⟨y, hy, by omega⟩
theorem Met2.done {l : List Reg} {left left2 : Lit → Bool} {x : ByteArray} {g : Int} (h : Met2 l left x left2 g) (hl : ∀ q, left2 q = false) : Met1 l (fun q => left q && !q.sameKey (keyL x)) g := by
  obtain ⟨h0, h1, h2, h3⟩ := h
  refine ⟨h0, fun y hy hq => ?_, h3⟩
  simp only [Bool.and_eq_false_iff, Bool.not_eq_false'] at hq
  rcases hq with hq | hq
  · exact h1 y hy hq
  · exact h2 y hy (same_keyL.1 hq) (hl _)

/-- the name that the outer map's step has brought -/
theorem outer_step {l : List Reg} {nb : ByteArray → Nat} {D y : DataW Unit} {x : ByteArray} {b : Nat} {ps : List MemPlace} (hhas : ∀ s, Maps.has D (keyL s) = (outerM l nb s).isSome) (hat0 : ∀ s d, outerM l nb s = some d → ∀ z, D.atKey (keyL s) z = d)
    (hat : ∀ zd, D.atKey (keyL x) zd = y) (hv : Rout (.map (some b)) = some (y, ps)) : hasN l x = true ∧ b = nb x := by
  have h1 := Maps.has_true_of_atKey hat
  rw [hhas x] at h1
  cases hh : hasN l x
  · simp [outerM, hh] at h1
  · have h2 := hat0 x (blockD (nb x)) (by simp [outerM, hh]) y
    rw [hat y] at h2
    have h3 := Rout_inv (h2 ▸ hv)
    simp only [Value.map.injEq, Option.some.injEq] at h3
    exact ⟨rfl, h3⟩
/-- the register that an inner map's step has brought -/
theorem inner_step {l : List Reg} {D y : DataW Unit} {x f : ByteArray} {z : Reg} {ps : List MemPlace} (hhas : ∀ s, Maps.has D (keyL s) = (innerM l x s).isSome) (hat0 : ∀ s d, innerM l x s = some d → ∀ z, D.atKey (keyL s) z = d)
    (hat : ∀ zd, D.atKey (keyL f) zd = y) (hv : Rin (regV z) = some (y, ps)) : getR l x f = some z := by
  have h1 := Maps.has_true_of_atKey hat
  rw [hhas f] at h1
  cases hg : getR l x f with
  | none => simp [innerM, hg] at h1
  | some z' =>
    have h2 := hat0 f (regD z') (by simp [innerM, hg]) y
    rw [hat y] at h2
    rw [Rin_mk] at hv
    cases hv
    rw [regD_inj h2]

set_option maxRecDepth 100000 in
set_option maxHeartbeats 2000000 in
theorem next_any (p o M n : Nat) (nb : ByteArray → Nat) (l : List Reg) (w : World) (hc : w.cell? ⟨p, o, none⟩ = some (.map (some M))) (hM : Maps2 w M nb l n) (hS : SortedB l) (hcl : clockL l ≤ 1000000) :
    Calls Tryz.prog 78 #[.pointer (some ⟨p, o, none⟩)] w fun e w' => e = .returned (.int .i64 (clockL l + 1)) ∧ Below w.heap.size w w' := by
  have hcn := clockL_nonneg l
  obtain ⟨D, hown, hhas, hat0⟩ := hM.1
  have hML := hM.lt
  go_enter Tryz.func78, Tryz.ntmps78
  go_wp2_with (at_range; refine wpList_range_own _ rfl _ 104 rfl 9 149 strLaw Tryz.underlying104 _ M n _ rfl hown ?_; intro w0 hrg0 hg0 hs0)
  go_frame
  go_loopw [3] (fun g wr => ∃ (left : Lit → Bool) (cnt : Nat) (gv : Int), g = .int .i64 gv ∧ wr.ranges Tryz.prog 9 Rout M w.heap.size n D left cnt ∧ Met1 l left gv ∧ Below w.heap.size w wr)
    (fun _ wr => wr.rangeLeft M w.heap.size)
  case atStart =>
    refine ⟨_, _, 0, rfl, hrg0, ⟨Int.le_refl _, fun y hy hf => ?_, .inl rfl⟩, (Below.refl _ _).grown hg0 (Nat.le_refl _) (fun j hj => by cases hj)⟩
    rw [hhas y.n] at hf
    have : hasN l y.n = true := hasN_iff.2 ⟨y, hy, rfl⟩
    simp [outerM, this] at hf
  case round =>
    obtain ⟨left, cnt, gv, rfl, hrg, hmet, hnx⟩ := hrel
    go_wp2_with (at_next; refine wpList_next_ranges _ rfl _ rfl 9 strLaw Rout Value.string (fun b : Nat => Value.map (some b)) invS invOut M w.heap.size n _ _ _ rfl hrg ?_ ?_)
    · intro hc0 hl0
      have e : clockL l = gv := clockL_eq hmet.1 (fun y hy => hmet.2.1 y hy (hl0 _)) hmet.2.2
      have E : Hid (clockL l = gv) := e
      have hb : gv ≤ 1000000 := by omega
      have hb0 : 0 ≤ gv := hmet.1
      clear e
      go_wp2
      go_ret
      exact ⟨ret_int (by rw [E.out]), hnx⟩
    · intro x b kl yd yp w1 cnt1 hkey hlk hv hat hrg1 hlt hg1 hs1 hen
      obtain ⟨rfl, hxs⟩ := keyS hkey
      obtain ⟨hx, rfl⟩ := outer_step hhas hat0 hat hv
      have hnx1 := hnx.grown hg1 hnx.size (fun j hj => by cases hj; exact Nat.le_refl _)
      obtain ⟨D2, hown2, hhas2, hat2⟩ := (hM.2.1 x hx).1
      have hnbl := hML (nb x) (.inr ⟨x, hx, rfl⟩)
      have hne := (hM.2.1 x hx).2
      have hown21 : w1.ownsMap Tryz.prog 9 Rin (nb x) n D2 := by
        obtain ⟨es, clock, h1, h2⟩ := hown2
        exact ⟨es, clock, (hnx1.block _ hnbl).trans h1, h2⟩
      have hw1 : w.heap.size < w1.heap.size := by have := hrg1.lt; exact this
      clear hs1
      go_wp2_with (at_range; refine wpList_range_own _ rfl _ 149 rfl 9 99 strLaw Tryz.underlying149 _ (nb x) n _ rfl hown21 ?_; intro w2 hrg2 hg2 hs2)
      go_frame
      go_loopw [3] (fun g wq => ∃ (left2 : Lit → Bool) (cnt2 : Nat) (g2 : Int), g = .int .i64 g2 ∧ wq.ranges Tryz.prog 9 Rin (nb x) w1.heap.size n D2 left2 cnt2 ∧
          wq.ranges Tryz.prog 9 Rout M w.heap.size n D (fun z => left z && !z.sameKey (keyL x)) cnt1 ∧ Met2 l left x left2 g2 ∧ Below w.heap.size w wq ∧ w1.heap.size < wq.heap.size)
        (fun _ wq => wq.rangeLeft (nb x) w1.heap.size)
      case atStart =>
        refine ⟨_, _, gv, rfl, hrg2, hrg1.kept hg2 (by simp) (by simp), ⟨hmet.1, hmet.2.1, fun y hy he hf => ?_, hmet.2.2⟩, hnx1.grown hg2 hnx1.size (fun j hj => by cases hj), by omega⟩
        rw [hhas2 y.f] at hf
        have a := getR_of_mem hS hy
        rw [he] at a
        simp [innerM, a] at hf
      case round =>
        clear hs2 hg2 hrg2
        obtain ⟨left2, cnt2, g2, rfl, hrq, hro, hmet2, hnq, hwq⟩ := hrel
        go_wp2_with (at_next; refine wpList_next_ranges _ rfl _ rfl 9 strLaw Rin Value.string regV invS invIn (nb x) w1.heap.size n _ _ _ rfl hrq ?_ ?_)
        · intro hc0 hl0
          go_wp2
          go_roundw
          case rel => exact ⟨_, cnt1, g2, rfl, hro, hmet2.done hl0, hnq⟩
          case measure => rw [hro.left_eq, hrg.left_eq]; exact hlt
        · intro f z kl2 yd2 yp2 w3 cnt3 hkey2 hlk2 hv2 hat3 hrg3 hlt3 hg3 hs3 hen3
          obtain ⟨rfl, hfs⟩ := keyS hkey2
          have hz := inner_step hhas2 hat2 hat3 hv2
          have hro3 := hro.kept hg3 (fun e => by have := Option.some.inj e; have := hML M (.inl rfl); omega) (fun e => by have := Option.some.inj e; omega)
          have hnq3 := hnq.grown hg3 hnq.size (fun j hj => by cases hj; omega)
          have hs3' : w1.heap.size < w3.heap.size := by omega
          have hm := hmet2.step hS hz
          clear hs3
          unfold regV at hen3 ⊢
          by_cases hg : g2 < z.c
          · have e : max g2 z.c = z.c := by omega
            rw [e] at hm
            clear e
            go_wp2
            refine ⟨⟨_, _, _, rfl, hrg3.alloc _, hro3.alloc _, hm, hnq3.alloc (by omega) _, by simp; omega⟩, ?_⟩
            rw [(hrg3.alloc _).left_eq, hrq.left_eq]; exact hlt3
          · have e : max g2 z.c = g2 := by omega
            rw [e] at hm
            clear e
            go_wp2
            refine ⟨⟨_, _, _, rfl, hrg3.alloc _, hro3.alloc _, hm, hnq3.alloc (by omega) _, by simp; omega⟩, ?_⟩
            rw [(hrg3.alloc _).left_eq, hrq.left_eq]; exact hlt3
end Go.Proofs.YtdfafhclhfijnaaGreatDoor
