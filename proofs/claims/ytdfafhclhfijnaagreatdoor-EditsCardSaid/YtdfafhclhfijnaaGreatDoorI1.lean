import Derived.RangeFuncNested
import Derived.RangeFuncBound
import Derived.RangeFuncCalls
import Derived.RangeFuncLeaves
import Derived.Shelf.Abstract
import Derived.Shelf.RegionOpen
import Derived.WalkKit
import Derived.OwnWalkIn
import Derived.TacticsInMore
import Derived.LoopNIn
import Derived.LoopIn
import Derived.Sort.MapsRangeIn
import Derived.Test.YtdfafhclhfijnaaGreatDoorB3
namespace Go.Proofs.YtdfafhclhfijnaaGreatDoor
open Go.RowKit Go.Maps Go.Shelf
attribute [local go_sem] Oper.semAt_some

/-- what a round that goes on keeps: all cells from block B on, but for the round's own (fp) -/
def KeepL (fp : World → Nat → Prop) (B : Nat) (W W' : World) : Prop := W.heap.size ≤ W'.heap.size ∧ (∀ k (o : Obj), B ≤ k → ¬ fp W k → W.heap[k]? = some o → o.isCells = true → W'.heap[k]? = some o) ∧ ∀ k, fp W' k → fp W k ∨ W.heap.size ≤ k
theorem KeepL.refl (fp : World → Nat → Prop) (B : Nat) (W : World) : KeepL fp B W W := ⟨Nat.le_refl _, fun _ _ _ _ h _ => h, fun _ h => .inl h⟩
theorem KeepL.trans {fp : World → Nat → Prop} {B : Nat} {A C D : World} (h : KeepL fp B A C) (k : KeepL fp B C D) : KeepL fp B A D :=
  ⟨Nat.le_trans h.1 k.1, fun i o hi hf ho hc => k.2.1 i o hi (fun hC => by
    rcases h.2.2 i hC with h1 | h1
    · exact hf h1
    · have := (Array.getElem?_eq_some_iff.1 ho).1; omega) (h.2.1 i o hi hf ho hc) hc, fun i hD => by
    rcases k.2.2 i hD with h1 | h1
    · exact h.2.2 i h1
    · exact .inr (Nat.le_trans h.1 h1)⟩
theorem KeepL.cell {fp : World → Nat → Prop} {B : Nat} {W W' : World} (h : KeepL fp B W W') {b j : Nat} {v : Value} (hb : B ≤ b) (hf : ¬ fp W b) (hc : W.cell? ⟨b, j, none⟩ = some v) : W'.cell? ⟨b, j, none⟩ = some v := by
  obtain ⟨o, ho, hoc⟩ := cells_of_cell hc
  rw [World.cell?_of_block (w := W) (a := ⟨b, j, none⟩) ((h.2.1 b o hb hf ho hoc).trans ho.symm)]
  exact hc
/-- the same, and maps and walks -/
def KeepC (fp : World → Nat → Prop) (B : Nat) (W W' : World) : Prop := KeepsWalks W W' ∧ KeepL fp B W W'
theorem KeepC.refl (fp : World → Nat → Prop) (B : Nat) (W : World) : KeepC fp B W W := ⟨KeepsWalks.refl W, KeepL.refl fp B W⟩
theorem KeepC.trans {fp : World → Nat → Prop} {B : Nat} {A C D : World} (h : KeepC fp B A C) (k : KeepC fp B C D) : KeepC fp B A D := ⟨h.1.trans k.1, h.2.trans k.2⟩

/-- the round's own blocks: what an iterator may suppose of them -/
structure FpOk (fp : World → Nat → Prop) (w : World) : Prop where
  old : ∀ W, Below w.heap.size w W → ∀ k, fp W k → k < w.heap.size
  kept : ∀ A B row, w.heap.size ≤ A.heap.size → A.grownBy B row → (∀ r, row = some r → ∃ o : Obj, A.heap[r]? = some o ∧ o.isCells = false) → ∀ k, fp B k → fp A k
def noFp (_ : World) (_ : Nat) : Prop := False
theorem noFp_ok (w : World) : FpOk noFp w := ⟨fun _ _ _ h => h.elim, fun _ _ _ _ _ _ _ h => h⟩

/-- what seen's closure has told: those that are seen and have come -/
def Vis (l : List Reg) (name : ByteArray) (left : Lit → Bool) (pre : List Reg) : Prop :=
  pre.Nodup ∧ (∀ y ∈ pre, y ∈ l) ∧ ∀ y ∈ l, (y ∈ pre ↔ seenB l name y = true ∧ left (keyL y.f) = false)

/-- is y told, where the deletion is del (none: there is none)? -/
def passB (del : Option Reg) (y : Reg) : Bool := match del with
  | some d => laterB y d
  | none => true

theorem seen_name {l : List Reg} {name : ByteArray} {y : Reg} (h : seenB l name y = true) : y.n = name := by
  simp only [seenB, Bool.and_eq_true] at h
  exact eqS_iff.1 h.1
theorem laterB_self (d : Reg) : laterB d d = false := by simp [laterB]
theorem empty_of {f : ByteArray} (h : f.toList.isEmpty = true) : f = ⟨#[]⟩ := by
  refine toList_inj ?_
  rw [List.isEmpty_iff] at h
  rw [h, ByteArray.toList_eq]
theorem pass_seen {l : List Reg} (hs : SortedB l) {name : ByteArray} {y : Reg} (hy : y ∈ l) (hn : y.n = name) : seenB l name y = passB (getR l name ⟨#[]⟩) y := by
  have e1 : eqS y.n name = true := eqS_iff.2 hn
  rcases findI_cases l (nameReg name) with ⟨d, hd, hf, hsame⟩ | hf
  · have hk := sameKeyB_iff.1 hsame
    have hg : getR l name ⟨#[]⟩ = some (reg l d) := by
      have := getR_of_mem hs (reg_mem hd)
      rw [hk.1, hk.2] at this
      exact this
    rw [seenB, e1, hf, hg]
    have e2 : (0 : Int) ≤ (d : Int) := by omega
    simp only [e2, if_true, Int.toNat_natCast, Bool.true_and, passB]
    cases he : y.f.toList.isEmpty
    · rfl
    · have hy2 := getR_of_mem hs hy
      rw [hn, empty_of he, hg] at hy2
      cases hy2
      rw [laterB_self]; rfl
  · have hg : getR l name ⟨#[]⟩ = none := by
      refine getR_none_of (fun z hz e => ?_)
      obtain ⟨i, hi, rfl⟩ := List.getElem_of_mem hz
      have : findI l (nameReg name) ≠ -1 := by
        unfold findI
        cases hq : l.findIdx? (fun y => sameKeyB y (nameReg name)) with
        | some j => simp only; omega
        | none =>
          rw [List.findIdx?_eq_none_iff] at hq
          have := hq l[i] hz
          rw [sameKeyB_iff.2 ⟨e.1, e.2⟩] at this
          cases this
      exact this hf
    rw [seenB, e1, hf, hg]
    have e2 : ¬ (0 : Int) ≤ (-1 : Int) := by omega
    simp only [e2, if_false, Bool.true_and, Bool.and_true, passB]
    cases he : y.f.toList.isEmpty
    · rfl
    · have hy2 := getR_of_mem hs hy
      rw [hn, empty_of he, hg] at hy2
      cases hy2

theorem Vis.start {l : List Reg} {name : ByteArray} {D : DataW Unit} (hs : SortedB l) (hhas : ∀ s, Maps.has D (keyL s) = (innerM l name s).isSome) : Vis l name (Maps.has D) [] := by
  refine ⟨List.nodup_nil, by simp, fun y hy => ⟨fun h => by simp at h, fun h => ?_⟩⟩
  have hn := seen_name h.1
  have hg := getR_of_mem hs hy
  rw [hn] at hg
  rw [hhas y.f] at h
  simp [innerM, hg] at h
/-- one has come that is told -/
theorem Vis.yes {l : List Reg} {name f : ByteArray} {left : Lit → Bool} {pre : List Reg} {z : Reg} (h : Vis l name left pre) (hs : SortedB l) (hz : getR l name f = some z) (hl : left (keyL f) = true) (hp : seenB l name z = true) :
    Vis l name (fun q => left q && !q.sameKey (keyL f)) (pre ++ [z]) := by
  obtain ⟨h1, h2, h3⟩ := h
  obtain ⟨hm, hzn, hzf⟩ := getR_mem hz
  have hnot : z ∉ pre := fun hin => by
    have := ((h3 z hm).1 hin).2
    rw [hzf, hl] at this; cases this
  refine ⟨?_, ?_, fun y hy => ?_⟩
  · rw [List.nodup_append]
    exact ⟨h1, by simp, fun a ha b hb => by
      simp at hb; subst hb
      intro e; subst e; exact hnot ha⟩
  · intro y hy
    rcases List.mem_append.1 hy with hy | hy
    · exact h2 y hy
    · simp at hy; subst hy; exact hm
  · simp only [List.mem_append, List.mem_singleton, Bool.and_eq_false_iff, Bool.not_eq_false']
    rw [h3 y hy, same_keyL]
    constructor
    · rintro (⟨a, b⟩ | rfl)
      · exact ⟨a, .inl b⟩
      · exact ⟨hp, .inr hzf⟩
    · rintro ⟨a, b | b⟩
      · exact .inl ⟨a, b⟩
      · right
        have := getR_of_mem hs hy
        rw [seen_name a, b, hz] at this
        cases this; rfl
/-- one has come that is not told -/
theorem Vis.no {l : List Reg} {name f : ByteArray} {left : Lit → Bool} {pre : List Reg} {z : Reg} (h : Vis l name left pre) (hs : SortedB l) (hz : getR l name f = some z) (hp : seenB l name z = false) :
    Vis l name (fun q => left q && !q.sameKey (keyL f)) pre := by
  obtain ⟨h1, h2, h3⟩ := h
  refine ⟨h1, h2, fun y hy => ?_⟩
  simp only [Bool.and_eq_false_iff, Bool.not_eq_false']
  rw [h3 y hy, same_keyL]
  constructor
  · rintro ⟨a, b⟩; exact ⟨a, .inl b⟩
  · rintro ⟨a, b | b⟩
    · exact ⟨a, b⟩
    · have := getR_of_mem hs hy
      rw [seen_name a, b, hz] at this
      cases this
      rw [hp] at a; cases a
theorem Vis.sub {l : List Reg} {name : ByteArray} {left : Lit → Bool} {pre : List Reg} (h : Vis l name left pre) : ∀ y ∈ pre, y ∈ fieldsL l name := fun y hy => List.mem_filter.2 ⟨h.2.1 y hy, ((h.2.2 y (h.2.1 y hy)).1 hy).1⟩
theorem Vis.done {l : List Reg} {name : ByteArray} {left : Lit → Bool} {pre : List Reg} (h : Vis l name left pre) (hs : SortedB l) (hl : ∀ q, left q = false) : pre.Perm (fieldsL l name) := by
  have hnd : (fieldsL l name).Nodup := by
    refine List.Pairwise.filter _ (List.Pairwise.imp ?_ hs)
    intro a b hab e
    subst e
    rw [aheadB_irrefl] at hab; cases hab
  rw [List.perm_ext_iff_of_nodup h.1 hnd]
  intro y
  constructor
  · exact h.sub y
  · intro hy
    obtain ⟨h1, h2⟩ := List.mem_filter.1 hy
    exact (h.2.2 y h1).2 ⟨h2, hl _⟩

theorem ownsMap_size {P : Program} {k : TypeId} {R : Value → Option (DataW Unit × List MemPlace)} {w : World} {b n : Nat} {D : DataW Unit} (h : w.ownsMap P k R b n D) : Maps.size D ≤ n := by
  obtain ⟨es, clock, _, _, hs, rfl⟩ := h
  simp only [Maps.size, length_sorted, List.length_map, Array.length_toList]
  exact hs

theorem below_grown {W W' : World} (h : Below W.heap.size W W') : W.grownBy W' none := ⟨h.os, h.tape, h.output, h.size, fun k hk _ => h.block k hk⟩

def delV (o : Option Reg) : Reg := o.getD ⟨⟨#[]⟩, ⟨#[]⟩, 0, 0, ⟨#[]⟩⟩

set_option maxRecDepth 100000 in
set_option maxHeartbeats 2000000 in
theorem seen1_stops (m : Nat) (hm : 2 ≤ m) (cb b n : Nat) (l : List Reg) (name : ByteArray) (w : World) (hcb : w.cell? ⟨cb, 0, none⟩ = some (.map (some b))) (hM : MapIs Rin w b (innerM l name) n) (hS : SortedB l) (fp : World → Nat → Prop) (hfp : FpOk fp w) :
    SeqStopsK Fence.wide m Tryz.prog 89 #[.pointer (some ⟨cb, 0, none⟩)] (fun x : Reg => #[Value.agg #[.string x.n, .string x.f, .int .i64 x.c, .int .i64 x.r, .string x.v]]) (KeepC fp w.heap.size)
      (fun xs => xs.Perm (fieldsL l name)) (fun pre => pre ≠ [] ∧ ∀ y ∈ pre, y ∈ fieldsL l name) n w := fun lp J Jx W hW hJ hJx hY h0 => by
  have h1m : 1 ≤ m := by omega
  have hcl : cb < w.heap.size := by
    rcases Nat.lt_or_ge cb w.heap.size with h | h
    · exact h
    · simp [World.cell?, Array.getElem?_eq_none h] at hcb
  have hcW : W.cell? ⟨cb, 0, none⟩ = some (.map (some b)) := (hW.cell (p := ⟨cb, 0, none⟩) hcl).trans hcb
  have hclW : cb < W.heap.size := Nat.lt_of_lt_of_le hcl hW.size
  have hWs := hW.size
  have hMW : MapIs Rin W b (innerM l name) n := hM.block (hW.block b hM.lt)
  have hbl := hM.lt
  have hcA : ∀ o, (W.alloc o).cell? ⟨cb, 0, none⟩ = some (.map (some b)) := fun o => by rw [World.cell?_alloc_lt _ _ ⟨cb, 0, none⟩ hclW]; exact hcW
  have e0 : (Instr.lookup 149 (.map (some b)) (.string ⟨#[]⟩) true).run Tryz.prog W = .ok (.tuple #[.agg #[.string (delV (getR l name ⟨#[]⟩)).n, .string (delV (getR l name ⟨#[]⟩)).f, .int .i64 (delV (getR l name ⟨#[]⟩)).c, .int .i64 (delV (getR l name ⟨#[]⟩)).r, .string (delV (getR l name ⟨#[]⟩)).v], .bool (getR l name ⟨#[]⟩).isSome]) W := by
    cases hg : getR l name ⟨#[]⟩ with
    | none =>
      rw [hMW.miss Tryz.underlying149 (zeroReg_run W) (s := ⟨#[]⟩) (by unfold maxLen; decide) (by simp [innerM, hg]) true]; rfl
    | some y =>
      obtain ⟨v, ps, hrun, hv⟩ := hMW.hit Tryz.underlying149 (zeroReg_run W) (s := ⟨#[]⟩) (by unfold maxLen; decide) (d := regD y) (by simp [innerM, hg]) true
      rw [hrun, Rin_inv hv]; rfl
  have hpass : ∀ y, y ∈ l → y.n = name → seenB l name y = passB (getR l name ⟨#[]⟩) y := fun y hy hn => pass_seen hS hy hn
  have HPS : Hid (∀ y, y ∈ l → y.n = name → seenB l name y = passB (getR l name ⟨#[]⟩) y) := hpass
  clear hpass
  obtain ⟨D, hown, hhas, hat0⟩ := hMW
  have hDn := ownsMap_size hown
  obtain ⟨dl, hdl⟩ : ∃ dl, delV (getR l name ⟨#[]⟩) = dl := ⟨_, rfl⟩
  obtain ⟨db, hdb⟩ : ∃ db, (getR l name ⟨#[]⟩).isSome = db := ⟨_, rfl⟩
  rw [hdl, hdb] at e0
  have HD : Hid (delV (getR l name ⟨#[]⟩) = dl ∧ (getR l name ⟨#[]⟩).isSome = db) := ⟨hdl, hdb⟩
  clear hdl hdb
  refine callsIn_of_wp Tryz.func89 rfl trivial ?_ rfl
  simp only [Tryz.ntmps89, List.size_toArray, List.length_cons, List.length_nil, Nat.reduceAdd, Nat.reduceSub, Array.replicate_succ, Array.replicate_zero, List.push_toArray, List.append_toArray, List.nil_append, List.cons_append]
  gi_wp2_with (gi_at_range; refine wpListIn_range_own _ rfl _ 149 rfl 9 99 strLaw Tryz.underlying149 _ b n _ rfl (hown.alloc _) ?_; intro w0 hrg0 hg0 hs0)
  have HF0 : Hid (¬ fp w0 W.heap.size) := fun h => by
    have h2 := hfp.kept _ _ none (by simp; omega) hg0 (fun r e => by cases e) _ h
    have h3 := hfp.kept _ _ none hWs (World.grownBy_alloc W _ none) (fun r e => by cases e) _ h2
    have := hfp.old _ hW _ h3; omega
  have e1 : (W.alloc (.cells #[.string dl.n, .string dl.f, .int .i64 dl.c, .int .i64 dl.r, .string dl.v] 99)).heap.size = W.heap.size + 1 := by simp
  rw [e1] at hrg0 hs0
  gi_loopw [6] (fun _ wr => ∃ (left : Lit → Bool) (cnt : Nat) (pre : List Reg), wr.ranges Tryz.prog 9 Rin b (W.heap.size + 1) n D left cnt ∧ J pre wr ∧ Vis l name left pre ∧ pre.length + cnt ≤ n ∧
      wr.cell? ⟨W.heap.size, 2, none⟩ = some (.int .i64 dl.c) ∧ wr.cell? ⟨W.heap.size, 3, none⟩ = some (.int .i64 dl.r) ∧ W.heap.size + 1 < wr.heap.size ∧ ¬ fp wr W.heap.size)
    (fun _ wr => wr.rangeLeft b (W.heap.size + 1))
  case atStart =>
    refine ⟨_, _, [], hrg0, hJ _ _ _ none (hJ _ _ _ none h0 (World.grownBy_alloc W _ none) (fun r e => by cases e)) hg0 (fun r e => by cases e), Vis.start hS hhas, by simpa using hDn, ?_, ?_, by omega, HF0.out⟩
    · rw [World.cell?_of_block (w := W.alloc _) (a := ⟨W.heap.size, 2, none⟩) (hg0.block _ (by simp) (by simp))]; simp
    · rw [World.cell?_of_block (w := W.alloc _) (a := ⟨W.heap.size, 3, none⟩) (hg0.block _ (by simp) (by simp))]; simp
  case round =>
    obtain ⟨left, cnt, pre, hrg, hJp, hvis, hlen, hd2, hd3, hsz, hnf⟩ := hrel
    gi_wp2_with (gi_at_next; refine wpListIn_next_ranges _ rfl _ rfl 9 strLaw Rin Value.string regV invS invIn b (W.heap.size + 1) n _ _ _ rfl hrg ?_ ?_)
    · intro hc0 hl0
      gi_wp2
      go_end0
      exact ⟨⟨_, rfl⟩, .inl ⟨pre, hvis.done hS hl0, hJp⟩⟩
    · intro f z kl yd yp w3 cnt3 hkey hlk hv hat3 hrg3 hlt3 hg3 hs3 hen3
      obtain ⟨rfl, hfs⟩ := keyS hkey
      have hz := inner_step hhas hat0 hat3 hv
      obtain ⟨hzm, hzn, hzf⟩ := getR_mem hz
      have hJ3 : J pre w3 := hJ _ _ _ (some (W.heap.size + 1)) hJp hg3 (fun r e => by cases e; exact ⟨by omega, hrg.iter_walk⟩)
      have hJ4 : ∀ o, J pre (w3.alloc o) := fun o => hJ _ _ _ none hJ3 (World.grownBy_alloc w3 o none) (fun r e => by cases e)
      have hps := HPS.out z hzm hzn
      have hs3' : W.heap.size + 1 < w3.heap.size := by omega
      have hd23 : w3.cell? ⟨W.heap.size, 2, none⟩ = some (.int .i64 dl.c) := by
        rw [World.cell?_of_block (w := wr) (a := ⟨W.heap.size, 2, none⟩) (hg3.block W.heap.size (by omega) (fun e => by have := Option.some.inj e; omega))]; exact hd2
      have hd33 : w3.cell? ⟨W.heap.size, 3, none⟩ = some (.int .i64 dl.r) := by
        rw [World.cell?_of_block (w := wr) (a := ⟨W.heap.size, 3, none⟩) (hg3.block W.heap.size (by omega) (fun e => by have := Option.some.inj e; omega))]; exact hd3
      have HEND : Hid (∀ (o : Obj) (w5 : World), (w3.alloc o).grownBy w5 none → w5.ranges Tryz.prog 9 Rin b (W.heap.size + 1) n D (fun q => left q && !q.sameKey (keyL f)) cnt3 ∧ J pre w5 ∧ w5.cell? ⟨W.heap.size, 2, none⟩ = some (.int .i64 dl.c) ∧ w5.cell? ⟨W.heap.size, 3, none⟩ = some (.int .i64 dl.r) ∧ W.heap.size + 1 < w5.heap.size ∧ ¬ fp w5 W.heap.size) := by
        intro o w5 hg
        have hsz5 := hg.size
        rw [World.size_alloc] at hsz5
        refine ⟨(hrg3.alloc _).kept hg (by simp) (by simp), hJ _ _ _ none (hJ4 o) hg (fun r e => by cases e), ?_, ?_, by omega, fun h => hnf (hfp.kept _ _ (some (W.heap.size + 1)) (by omega) hg3 (fun r e => by cases e; obtain ⟨o, ho, hw⟩ := hrg.iter_walk; exact ⟨o, ho, Obj.not_cells_of_walk hw⟩) _ (hfp.kept _ _ none (by omega) (World.grownBy_alloc w3 o none) (fun r e => by cases e) _ (hfp.kept _ _ none (by simp; omega) hg (fun r e => by cases e) _ h)))⟩
        · rw [World.cell?_of_block (w := w3.alloc o) (a := ⟨W.heap.size, 2, none⟩) (hg.block W.heap.size (by rw [World.size_alloc]; omega) (by simp)), World.cell?_alloc_lt _ _ ⟨W.heap.size, 2, none⟩ (show W.heap.size < w3.heap.size from by omega)]; exact hd23
        · rw [World.cell?_of_block (w := w3.alloc o) (a := ⟨W.heap.size, 3, none⟩) (hg.block W.heap.size (by rw [World.size_alloc]; omega) (by simp)), World.cell?_alloc_lt _ _ ⟨W.heap.size, 3, none⟩ (show W.heap.size < w3.heap.size from by omega)]; exact hd33
      have HL : Hid (wr.rangeLeft b (W.heap.size + 1) = cnt) := hrg.left_eq
      have HVY : Hid (seenB l name z = true → Vis l name (fun q => left q && !q.sameKey (keyL f)) (pre ++ [z])) := fun hp => hvis.yes hS hz hlk hp
      have HVN : Hid (seenB l name z = false → Vis l name (fun q => left q && !q.sameKey (keyL f)) pre) := fun hp => hvis.no hS hz hp
      have HSUB : Hid (∀ y ∈ pre, y ∈ fieldsL l name) := hvis.sub
      have HY : Hid (∀ W1, J pre W1 → YieldAt Fence.wide (m - 1) Tryz.prog lp #[Value.agg #[.string z.n, .string z.f, .int .i64 z.c, .int .i64 z.r, .string z.v]] W1 fun e W' => (e = .returned (.bool true) ∧ J (pre ++ [z]) W' ∧ KeepC fp w.heap.size W1 W') ∨ (e = .returned (.bool false) ∧ Jx (pre ++ [z]) W')) := fun W1 h1 => hY pre z W1 h1 (by omega)
      have HZ : Hid (z ∈ l) := hzm
      have HPZ : Hid (seenB l name z = passB (getR l name ⟨#[]⟩) z) := hps
      unfold regV at hen3 ⊢
      clear hs3 hg3 hd2 hd3 hrg hJp hvis hJ3 hJ4 hps hzn hzf hz hzm hat3 hlk hkey hv hsz hY hrg3 hW hJ hJx h0 hcb hM hcW hcA hown hhas hat0 e0 hrg0 hg0 hs0 e1
      cases db
      · obtain ⟨h5r, h5J, h52, h53, h5s, h5f⟩ := HEND.out (.cells #[.string z.n, .string z.f, .int .i64 z.c, .int .i64 z.r, .string z.v] 99) _ ⟨rfl, rfl, rfl, Nat.le_refl _, fun _ _ _ => rfl⟩
        have hsee : seenB l name z = true := by
          rw [HPZ.out]
          cases hg : getR l name ⟨#[]⟩ with
          | none => rfl
          | some d => have := HD.out.2; rw [hg] at this; cases this
        obtain ⟨fn, tmps, assign, body, hy, hR⟩ := HY.out _ h5J
        gi_wp2
        refine ⟨trivial, ?_⟩
        gi_wp2
        refine hR.mono ?_
        rintro e W5 (⟨rfl, hJ5, hk5⟩ | ⟨rfl, hx5⟩)
        · have hr6 := h5r.of_walks hk5.1
          have c2 := hk5.2.cell (by omega) h5f h52
          have c3 := hk5.2.cell (by omega) h5f h53
          have hnf6 : ¬ fp W5 W.heap.size := fun h => by
            rcases hk5.2.2.2 _ h with h1 | h1
            · exact h5f h1
            · omega
          have hs6 := Nat.lt_of_lt_of_le h5s hk5.1.size
          gi_wp2
          go_roundw
          case rel => exact ⟨_, cnt3, pre ++ [z], hr6, hJ5, HVY.out hsee, by simp; omega, c2, c3, hs6, hnf6⟩
          case measure => rw [hr6.left_eq, HL.out]; exact hlt3
        · gi_wp2
          refine bodyPost_ret (results_none rfl _ _ _) rfl ?_
          exact ⟨⟨_, rfl⟩, .inr ⟨pre ++ [z], ⟨by simp, fun y hy => by
            rcases List.mem_append.1 hy with h | h
            · exact HSUB.out y h
            · simp at h; subst h; exact List.mem_filter.2 ⟨HZ.out, hsee⟩⟩, hx5⟩⟩
      · have hdel : getR l name ⟨#[]⟩ = some dl := by
          cases hg : getR l name ⟨#[]⟩ with
          | none => have := HD.out.2; rw [hg] at this; cases this
          | some d => have := HD.out.1; rw [hg] at this; rw [← this]; rfl
        have hsee : seenB l name z = laterB z dl := by rw [HPZ.out, hdel]; rfl
        have hLt := fun w' => later_any z dl w'
        have q2 : (w3.alloc (.cells #[.string z.n, .string z.f, .int .i64 z.c, .int .i64 z.r, .string z.v] 99)).cell? ⟨W.heap.size, 2, none⟩ = some (.int .i64 dl.c) := (HEND.out _ _ ⟨rfl, rfl, rfl, Nat.le_refl _, fun _ _ _ => rfl⟩).2.2.1
        have q3 : (w3.alloc (.cells #[.string z.n, .string z.f, .int .i64 z.c, .int .i64 z.r, .string z.v] 99)).cell? ⟨W.heap.size, 3, none⟩ = some (.int .i64 dl.r) := (HEND.out _ _ ⟨rfl, rfl, rfl, Nat.le_refl _, fun _ _ _ => rfl⟩).2.2.2.1
        cases hlt : laterB z dl
        · rw [hlt] at hsee
          rw [hlt] at hLt
          gi_wp2_with (first | (refine ⟨trivial, ?_⟩; gi_at_call 88; refine (callsIn_wide.2 (hLt _)).mono ?_; rintro e w5 ⟨rfl, hb5⟩) | (gi_at_call 88; refine (callsIn_wide.2 (hLt _)).mono ?_; rintro e w5 ⟨rfl, hb5⟩))
          obtain ⟨h5r, h5J, h52, h53, h5s, h5f⟩ := HEND.out _ _ (below_grown hb5)
          go_roundw
          case rel => exact ⟨_, cnt3, pre, h5r, h5J, HVN.out hsee, by omega, h52, h53, h5s, h5f⟩
          case measure => rw [h5r.left_eq, HL.out]; exact hlt3
        · rw [hlt] at hsee
          rw [hlt] at hLt
          gi_wp2_with (first | (refine ⟨trivial, ?_⟩; gi_at_call 88; refine (callsIn_wide.2 (hLt _)).mono ?_; rintro e w5 ⟨rfl, hb5⟩; obtain ⟨h5r, h5J, h52, h53, h5s, h5f⟩ := HEND.out _ _ (below_grown hb5); obtain ⟨z0, z1, z2, z3, z4⟩ := box_five (w := w3) (x := z) (hb5.mono (by rw [World.size_alloc]; exact Nat.le_refl _)); obtain ⟨fn, tmps, assign, body, hy, hR⟩ := HY.out _ h5J) | (gi_at_call 88; refine (callsIn_wide.2 (hLt _)).mono ?_; rintro e w5 ⟨rfl, hb5⟩; obtain ⟨h5r, h5J, h52, h53, h5s, h5f⟩ := HEND.out _ _ (below_grown hb5); obtain ⟨z0, z1, z2, z3, z4⟩ := box_five (w := w3) (x := z) (hb5.mono (by rw [World.size_alloc]; exact Nat.le_refl _)); obtain ⟨fn, tmps, assign, body, hy, hR⟩ := HY.out _ h5J))
          refine hR.mono ?_
          rintro e W5 (⟨rfl, hJ5, hk5⟩ | ⟨rfl, hx5⟩)
          · have hr6 := h5r.of_walks hk5.1
            have c2 := hk5.2.cell (by omega) h5f h52
            have c3 := hk5.2.cell (by omega) h5f h53
            have hnf6 : ¬ fp W5 W.heap.size := fun h => by
              rcases hk5.2.2.2 _ h with h1 | h1
              · exact h5f h1
              · omega
            have hs6 := Nat.lt_of_lt_of_le h5s hk5.1.size
            gi_wp2
            go_roundw
            case rel => exact ⟨_, cnt3, pre ++ [z], hr6, hJ5, HVY.out hsee, by simp; omega, c2, c3, hs6, hnf6⟩
            case measure => rw [hr6.left_eq, HL.out]; exact hlt3
          · gi_wp2
            refine bodyPost_ret (results_none rfl _ _ _) rfl ?_
            exact ⟨⟨_, rfl⟩, .inr ⟨pre ++ [z], ⟨by simp, fun y hy => by
              rcases List.mem_append.1 hy with h | h
              · exact HSUB.out y h
              · simp at h; subst h; exact List.mem_filter.2 ⟨HZ.out, hsee⟩⟩, hx5⟩⟩
end Go.Proofs.YtdfafhclhfijnaaGreatDoor
