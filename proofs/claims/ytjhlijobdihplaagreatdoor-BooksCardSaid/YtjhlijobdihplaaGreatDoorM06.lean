import Derived.Sort.CutIn
import Derived.Stop.RegionWithIn
import Derived.RangeFuncNested
import Derived.RangeFuncBound
import Derived.RangeFuncCalls
import Derived.RangeFuncLeaves
import Derived.Shelf.Abstract
import Derived.Shelf.RegionOpen
import Derived.WalkKit
import Derived.OwnWalkIn
import Derived.TacticsInMore
import Derived.LoopNIn
import Derived.LoopIn
import Derived.Sort.MapsRangeIn
import Derived.Test.YtjhlijobdihplaaGreatDoorM04
namespace Go.Proofs.YtjhlijobdihplaaGreatDoor
open Go.RowKit Go.Maps Go.Shelf
attribute [local go_sem] Oper.semAt_some

/-- what a round that goes on keeps: all cells from block B on, but for the round's own (fp) -/
def KeepL (fp : World → Nat → Prop) (B : Nat) (W W' : World) : Prop := W.heap.size ≤ W'.heap.size ∧ (∀ k (o : Obj), B ≤ k → ¬ fp W k → W.heap[k]? = some o → o.isCells = true → W'.heap[k]? = some o) ∧ ∀ k, fp W' k → fp W k ∨ W.heap.size ≤ k
theorem KeepL.refl (fp : World → Nat → Prop) (B : Nat) (W : World) : KeepL fp B W W := ⟨Nat.le_refl _, fun _ _ _ _ h _ => h, fun _ h => .inl h⟩
theorem KeepL.trans {fp : World → Nat → Prop} {B : Nat} {A C D : World} (h : KeepL fp B A C) (k : KeepL fp B C D) : KeepL fp B A D :=
  ⟨Nat.le_trans h.1 k.1, fun i o hi hf ho hc => k.2.1 i o hi (fun hC => by
    rcases h.2.2 i hC with h1 | h1
    · exact hf h1
    · have := (Array.getElem?_eq_some_iff.1 ho).1; omega) (h.2.1 i o hi hf ho hc) hc, fun i hD => by
    rcases k.2.2 i hD with h1 | h1
    · exact h.2.2 i h1
    · exact .inr (Nat.le_trans h.1 h1)⟩
theorem KeepL.cell {fp : World → Nat → Prop} {B : Nat} {W W' : World} (h : KeepL fp B W W') {b j : Nat} {v : Value} (hb : B ≤ b) (hf : ¬ fp W b) (hc : W.cell? ⟨b, j, none⟩ = some v) : W'.cell? ⟨b, j, none⟩ = some v := by
  obtain ⟨o, ho, hoc⟩ := cells_of_cell hc
  rw [World.cell?_of_block (w := W) (a := ⟨b, j, none⟩) ((h.2.1 b o hb hf ho hoc).trans ho.symm)]
  exact hc
/-- the same, and maps and walks -/
def KeepC (fp : World → Nat → Prop) (B : Nat) (W W' : World) : Prop := KeepsWalks W W' ∧ KeepL fp B W W'
theorem KeepC.refl (fp : World → Nat → Prop) (B : Nat) (W : World) : KeepC fp B W W := ⟨KeepsWalks.refl W, KeepL.refl fp B W⟩
theorem KeepC.trans {fp : World → Nat → Prop} {B : Nat} {A C D : World} (h : KeepC fp B A C) (k : KeepC fp B C D) : KeepC fp B A D := ⟨h.1.trans k.1, h.2.trans k.2⟩

/-- the round's own blocks: what an iterator may suppose of them -/
structure FpOk (fp : World → Nat → Prop) (w : World) : Prop where
  old : ∀ W, Below w.heap.size w W → ∀ k, fp W k → k < w.heap.size
  kept : ∀ A B row, w.heap.size ≤ A.heap.size → A.grownBy B row → (∀ r, row = some r → ∃ o : Obj, A.heap[r]? = some o ∧ o.isCells = false) → ∀ k, fp B k → fp A k
def noFp (_ : World) (_ : Nat) : Prop := False
theorem noFp_ok (w : World) : FpOk noFp w := ⟨fun _ _ _ h => h.elim, fun _ _ _ _ _ _ _ h => h⟩

/-- what seen's closure has told: those that are seen and have come -/
def Vis (l : List Reg) (name : ByteArray) (left : Lit → Bool) (pre : List Reg) : Prop :=
  pre.Nodup ∧ (∀ y ∈ pre, y ∈ l) ∧ ∀ y ∈ l, (y ∈ pre ↔ seenB l name y = true ∧ left (keyL y.f) = false)

/-- is y told, where the deletion is del (none: there is none)? -/
def passB (del : Option Reg) (y : Reg) : Bool := match del with
  | some d => laterB y d
  | none => true

theorem seen_name {l : List Reg} {name : ByteArray} {y : Reg} (h : seenB l name y = true) : y.n = name := by
  simp only [seenB, Bool.and_eq_true] at h
  exact eqS_iff.1 h.1
theorem laterB_self (d : Reg) : laterB d d = false := by simp [laterB]
theorem empty_of {f : ByteArray} (h : f.toList.isEmpty = true) : f = ⟨#[]⟩ := by
  refine toList_inj ?_
  rw [List.isEmpty_iff] at h
  rw [h, ByteArray.toList_eq]
theorem pass_seen {l : List Reg} (hs : SortedB l) {name : ByteArray} {y : Reg} (hy : y ∈ l) (hn : y.n = name) : seenB l name y = passB (getR l name ⟨#[]⟩) y := by
  have e1 : eqS y.n name = true := eqS_iff.2 hn
  rcases findI_cases l (nameReg name) with ⟨d, hd, hf, hsame⟩ | hf
  · have hk := sameKeyB_iff.1 hsame
    have hg : getR l name ⟨#[]⟩ = some (reg l d) := by
      have := getR_of_mem hs (reg_mem hd)
      rw [hk.1, hk.2] at this
      exact this
    rw [seenB, e1, hf, hg]
    have e2 : (0 : Int) ≤ (d : Int) := by omega
    simp only [e2, if_true, Int.toNat_natCast, Bool.true_and, passB]
    cases he : y.f.toList.isEmpty
    · rfl
    · have hy2 := getR_of_mem hs hy
      rw [hn, empty_of he, hg] at hy2
      cases hy2
      rw [laterB_self]; rfl
  · have hg : getR l name ⟨#[]⟩ = none := by
      refine getR_none_of (fun z hz e => ?_)
      obtain ⟨i, hi, rfl⟩ := List.getElem_of_mem hz
      have : findI l (nameReg name) ≠ -1 := by
        unfold findI
        cases hq : l.findIdx? (fun y => sameKeyB y (nameReg name)) with
        | some j => simp only; omega
        | none =>
          rw [List.findIdx?_eq_none_iff] at hq
          have := hq l[i] hz
          rw [sameKeyB_iff.2 ⟨e.1, e.2⟩] at this
          cases this
      exact this hf
    rw [seenB, e1, hf, hg]
    have e2 : ¬ (0 : Int) ≤ (-1 : Int) := by omega
    simp only [e2, if_false, Bool.true_and, Bool.and_true, passB]
    cases he : y.f.toList.isEmpty
    · rfl
    · have hy2 := getR_of_mem hs hy
      rw [hn, empty_of he, hg] at hy2
      cases hy2

theorem Vis.start {l : List Reg} {name : ByteArray} {D : DataW Unit} (hs : SortedB l) (hhas : ∀ s, Maps.has D (keyL s) = (innerM l name s).isSome) : Vis l name (Maps.has D) [] := by
  refine ⟨List.nodup_nil, by simp, fun y hy => ⟨fun h => by simp at h, fun h => ?_⟩⟩
  have hn := seen_name h.1
  have hg := getR_of_mem hs hy
  rw [hn] at hg
  rw [hhas y.f] at h
  simp [innerM, hg] at h
/-- one has come that is told -/
theorem Vis.yes {l : List Reg} {name f : ByteArray} {left : Lit → Bool} {pre : List Reg} {z : Reg} (h : Vis l name left pre) (hs : SortedB l) (hz : getR l name f = some z) (hl : left (keyL f) = true) (hp : seenB l name z = true) :
    Vis l name (fun q => left q && !q.sameKey (keyL f)) (pre ++ [z]) := by
  obtain ⟨h1, h2, h3⟩ := h
  obtain ⟨hm, hzn, hzf⟩ := getR_mem hz
  have hnot : z ∉ pre := fun hin => by
    have := ((h3 z hm).1 hin).2
    rw [hzf, hl] at this; cases this
  refine ⟨?_, ?_, fun y hy => ?_⟩
  · rw [List.nodup_append]
    exact ⟨h1, by simp, fun a ha b hb => by
      simp at hb; subst hb
      intro e; subst e; exact hnot ha⟩
  · intro y hy
    rcases List.mem_append.1 hy with hy | hy
    · exact h2 y hy
    · simp at hy; subst hy; exact hm
  · simp only [List.mem_append, List.mem_singleton, Bool.and_eq_false_iff, Bool.not_eq_false']
    rw [h3 y hy, same_keyL]
    constructor
    · rintro (⟨a, b⟩ | rfl)
      · exact ⟨a, .inl b⟩
      · exact ⟨hp, .inr hzf⟩
    · rintro ⟨a, b | b⟩
      · exact .inl ⟨a, b⟩
      · right
        have := getR_of_mem hs hy
        rw [seen_name a, b, hz] at this
        cases this; rfl
/-- one has come that is not told -/
theorem Vis.no {l : List Reg} {name f : ByteArray} {left : Lit → Bool} {pre : List Reg} {z : Reg} (h : Vis l name left pre) (hs : SortedB l) (hz : getR l name f = some z) (hp : seenB l name z = false) :
    Vis l name (fun q => left q && !q.sameKey (keyL f)) pre := by
  obtain ⟨h1, h2, h3⟩ := h
  refine ⟨h1, h2, fun y hy => ?_⟩
  simp only [Bool.and_eq_false_iff, Bool.not_eq_false']
  rw [h3 y hy, same_keyL]
  constructor
  · rintro ⟨a, b⟩; exact ⟨a, .inl b⟩
  · rintro ⟨a, b | b⟩
    · exact ⟨a, b⟩
    · have := getR_of_mem hs hy
      rw [seen_name a, b, hz] at this
      cases this
      rw [hp] at a; cases a
theorem Vis.sub {l : List Reg} {name : ByteArray} {left : Lit → Bool} {pre : List Reg} (h : Vis l name left pre) : ∀ y ∈ pre, y ∈ fieldsL l name := fun y hy => List.mem_filter.2 ⟨h.2.1 y hy, ((h.2.2 y (h.2.1 y hy)).1 hy).1⟩
theorem Vis.done {l : List Reg} {name : ByteArray} {left : Lit → Bool} {pre : List Reg} (h : Vis l name left pre) (hs : SortedB l) (hl : ∀ q, left q = false) : pre.Perm (fieldsL l name) := by
  have hnd : (fieldsL l name).Nodup := by
    refine List.Pairwise.filter _ (List.Pairwise.imp ?_ hs)
    intro a b hab e
    subst e
    rw [aheadB_irrefl] at hab; cases hab
  rw [List.perm_ext_iff_of_nodup h.1 hnd]
  intro y
  constructor
  · exact h.sub y
  · intro hy
    obtain ⟨h1, h2⟩ := List.mem_filter.1 hy
    exact (h.2.2 y h1).2 ⟨h2, hl _⟩

theorem ownsMap_size {P : Program} {k : TypeId} {R : Value → Option (DataW Unit × List MemPlace)} {w : World} {b n : Nat} {D : DataW Unit} (h : w.ownsMap P k R b n D) : Maps.size D ≤ n := by
  obtain ⟨es, clock, _, _, hs, rfl⟩ := h
  simp only [Maps.size, length_sorted, List.length_map, Array.length_toList]
  exact hs

theorem below_grown {W W' : World} (h : Below W.heap.size W W') : W.grownBy W' none := ⟨h.os, h.tape, h.output, h.size, fun k hk _ => h.block k hk⟩

def delV (o : Option Reg) : Reg := o.getD ⟨⟨#[]⟩, ⟨#[]⟩, 0, 0, ⟨#[]⟩⟩

set_option maxRecDepth 100000 in
set_option maxHeartbeats 2000000 in
theorem seen1_stops (m : Nat) (hm : 2 ≤ m) (bb nbx p o b n : Nat) (r0 : Option Nat) (l : List Reg) (name : ByteArray) (w : World) (h1 : w.cell? ⟨bb, 0, none⟩ = some (.pointer (some ⟨p, o, none⟩))) (h2 : w.cell? ⟨nbx, 0, none⟩ = some (.string name)) (hc : w.cell? ⟨p, o, none⟩ = some (.map r0))
    (hL : ∀ W, Below w.heap.size w W → (Instr.lookup 104 (.map r0) (.string name) false).run Tryz.prog W = .ok (.map (some b)) W) (hM : MapIs Rin w b (innerM l name) n) (hS : SortedB l) (fp : World → Nat → Prop) (hfp : FpOk fp w) :
    SeqStopsK Fence.wide m Tryz.prog 94 #[.pointer (some ⟨bb, 0, none⟩), .pointer (some ⟨nbx, 0, none⟩)] (fun x : Reg => #[Value.agg #[.string x.n, .string x.f, .int .i64 x.c, .int .i64 x.r, .string x.v]]) (KeepC fp w.heap.size)
      (fun xs => xs.Perm (fieldsL l name)) (fun pre => pre ≠ [] ∧ ∀ y ∈ pre, y ∈ fieldsL l name) n w := fun lp J Jx W hW hJ hJx hY h0 => by
  have h1m : 1 ≤ m := by omega
  have lt_of : ∀ {q j : Nat} {u : Value}, w.cell? ⟨q, j, none⟩ = some u → q < w.heap.size := fun {q j u} h => by
    rcases Nat.lt_or_ge q w.heap.size with h' | h'
    · exact h'
    · simp [World.cell?, Array.getElem?_eq_none h'] at h
  have l1 := lt_of h1
  have l2 := lt_of h2
  have l3 := lt_of hc
  have c1 : W.cell? ⟨bb, 0, none⟩ = some (.pointer (some ⟨p, o, none⟩)) := (hW.cell (p := ⟨bb, 0, none⟩) l1).trans h1
  have c2 : W.cell? ⟨nbx, 0, none⟩ = some (.string name) := (hW.cell (p := ⟨nbx, 0, none⟩) l2).trans h2
  have c3 : W.cell? ⟨p, o, none⟩ = some (.map r0) := (hW.cell (p := ⟨p, o, none⟩) l3).trans hc
  have L1 := hL W.drew hW.drew
  have L2 : ∀ ob, (Instr.lookup 104 (.map r0) (.string name) false).run Tryz.prog (W.alloc ob).drew = .ok (.map (some b)) (W.alloc ob).drew := fun ob => hL _ (hW.alloc hW.size _).drew
  have L3 : ∀ ob, (Instr.lookup 104 (.map r0) (.string name) false).run Tryz.prog (W.alloc ob).drew.drew = .ok (.map (some b)) (W.alloc ob).drew.drew := fun ob => hL _ (hW.alloc hW.size _).drew.drew
  have hWs := hW.size
  have hMW : MapIs Rin W b (innerM l name) n := hM.block (hW.block b hM.lt)
  have hbl := hM.lt
  have d1 : ∀ ob, (W.alloc ob).cell? ⟨bb, 0, none⟩ = some (.pointer (some ⟨p, o, none⟩)) := fun ob => by rw [World.cell?_alloc_lt _ _ ⟨bb, 0, none⟩ (Nat.lt_of_lt_of_le l1 hWs)]; exact c1
  have d2 : ∀ ob, (W.alloc ob).cell? ⟨nbx, 0, none⟩ = some (.string name) := fun ob => by rw [World.cell?_alloc_lt _ _ ⟨nbx, 0, none⟩ (Nat.lt_of_lt_of_le l2 hWs)]; exact c2
  have d3 : ∀ ob, (W.alloc ob).cell? ⟨p, o, none⟩ = some (.map r0) := fun ob => by rw [World.cell?_alloc_lt _ _ ⟨p, o, none⟩ (Nat.lt_of_lt_of_le l3 hWs)]; exact c3
  clear hL h1 h2 hc
  have e0 : ∀ Y, MapIs Rin Y b (innerM l name) n → (Instr.lookup 150 (.map (some b)) (.string ⟨#[]⟩) true).run Tryz.prog Y = .ok (.tuple #[.agg #[.string (delV (getR l name ⟨#[]⟩)).n, .string (delV (getR l name ⟨#[]⟩)).f, .int .i64 (delV (getR l name ⟨#[]⟩)).c, .int .i64 (delV (getR l name ⟨#[]⟩)).r, .string (delV (getR l name ⟨#[]⟩)).v], .bool (getR l name ⟨#[]⟩).isSome]) Y := by
    intro Y hMY
    cases hg : getR l name ⟨#[]⟩ with
    | none =>
      rw [hMY.miss Tryz.underlying150 (zeroReg_run Y) (s := ⟨#[]⟩) (by unfold maxLen; decide) (by simp [innerM, hg]) true]; rfl
    | some y =>
      obtain ⟨v, ps, hrun, hv⟩ := hMY.hit Tryz.underlying150 (zeroReg_run Y) (s := ⟨#[]⟩) (by unfold maxLen; decide) (d := regD y) (by simp [innerM, hg]) true
      rw [hrun, Rin_inv hv]; rfl
  have e1 := e0 W.drew (hMW.block rfl)
  have e2 := fun ob => e0 (W.alloc ob).drew (hMW.block (Below.heap_alloc W ob _ (Nat.lt_of_lt_of_le hbl hWs)))
  have hpass : ∀ y, y ∈ l → y.n = name → seenB l name y = passB (getR l name ⟨#[]⟩) y := fun y hy hn => pass_seen hS hy hn
  have HPS : Hid (∀ y, y ∈ l → y.n = name → seenB l name y = passB (getR l name ⟨#[]⟩) y) := hpass
  clear hpass
  obtain ⟨D, hown, hhas, hat0⟩ := hMW
  have hDn := ownsMap_size hown
  obtain ⟨dl, hdl⟩ : ∃ dl, delV (getR l name ⟨#[]⟩) = dl := ⟨_, rfl⟩
  obtain ⟨db, hdb⟩ : ∃ db, (getR l name ⟨#[]⟩).isSome = db := ⟨_, rfl⟩
  rw [hdl, hdb] at e1
  simp only [hdl, hdb] at e2
  clear e0
  have HD : Hid (delV (getR l name ⟨#[]⟩) = dl ∧ (getR l name ⟨#[]⟩).isSome = db) := ⟨hdl, hdb⟩
  clear hdl hdb
  refine callsIn_of_wp Tryz.func94 rfl trivial ?_ rfl
  simp only [Tryz.ntmps94, List.size_toArray, List.length_cons, List.length_nil, Nat.reduceAdd, Nat.reduceSub, Array.replicate_succ, Array.replicate_zero, List.push_toArray, List.append_toArray, List.nil_append, List.cons_append]
  gi_wp2
  gi_cut [4, 5] from 42 (fun s4 s5 wd => s4 = .pointer (some ⟨W.heap.size, 0, none⟩) ∧ s5 = .bool db ∧ wd = (W.alloc (.cells #[.string dl.n, .string dl.f, .int .i64 dl.c, .int .i64 dl.r, .string dl.v] 99)).drew)
  case first =>
    clear hY hJ hJx h0 hfp HD HPS hown hhas hat0
    gi_region
    all_goals gi_wp2
    all_goals gi_meet
    all_goals case rel => exact ⟨rfl, rfl, rfl⟩
  case rest =>
  obtain ⟨rfl, rfl, rfl⟩ := hcut
  have hownY : ((W.alloc (.cells #[.string dl.n, .string dl.f, .int .i64 dl.c, .int .i64 dl.r, .string dl.v] 99)).drew.drew).ownsMap Tryz.prog 9 Rin b n D := by
    have h := hown.alloc (.cells #[.string dl.n, .string dl.f, .int .i64 dl.c, .int .i64 dl.r, .string dl.v] 99)
    exact h
  obtain ⟨w0, hrun, hrg0, hg0, hs0⟩ := hownY.range strLaw Tryz.underlying150
  have hg0 : (W.alloc (.cells #[.string dl.n, .string dl.f, .int .i64 dl.c, .int .i64 dl.r, .string dl.v] 99)).grownBy w0 none := ⟨hg0.os, hg0.tape, hg0.output, hg0.size, hg0.block⟩
  have hsY : (W.alloc (.cells #[.string dl.n, .string dl.f, .int .i64 dl.c, .int .i64 dl.r, .string dl.v] 99)).drew.drew.heap.size = W.heap.size + 1 := by
    show (W.alloc _).heap.size = _
    simp
  rw [hsY] at hrun hrg0 hs0
  gi_wp2
  gi_cut [24] from 42 (fun s24 wd => s24 = .pointer (some ⟨W.heap.size + 1, 0, none⟩) ∧ wd = w0)
  case first =>
    clear hY hJ hJx h0 hfp HD HPS hown hhas hat0 hownY hrg0 hg0 e1 e2 L1 L2
    gi_region
    all_goals gi_wp2
    all_goals gi_meet
    all_goals case rel => exact ⟨rfl, rfl⟩
  case rest =>
  obtain ⟨rfl, hw0⟩ := hcut
  have hw0 := hw0.symm
  subst hw0
  clear hrun hownY hsY
  have HF0 : Hid (¬ fp w0 W.heap.size) := fun h => by
    have h2 := hfp.kept _ _ none (by simp; omega) hg0 (fun r e => by cases e) _ h
    have h3 := hfp.kept _ _ none hWs (World.grownBy_alloc W _ none) (fun r e => by cases e) _ h2
    have := hfp.old _ hW _ h3; omega
  gi_wp2
  gi_loopw [7] (fun _ wr => ∃ (left : Lit → Bool) (cnt : Nat) (pre : List Reg), wr.ranges Tryz.prog 9 Rin b (W.heap.size + 1) n D left cnt ∧ J pre wr ∧ Vis l name left pre ∧ pre.length + cnt ≤ n ∧
      wr.cell? ⟨W.heap.size, 2, none⟩ = some (.int .i64 dl.c) ∧ wr.cell? ⟨W.heap.size, 3, none⟩ = some (.int .i64 dl.r) ∧ W.heap.size + 1 < wr.heap.size ∧ ¬ fp wr W.heap.size)
    (fun _ wr => wr.rangeLeft b (W.heap.size + 1))
  case atStart =>
    refine ⟨_, _, [], hrg0, hJ _ _ _ none (hJ _ _ _ none h0 (World.grownBy_alloc W _ none) (fun r e => by cases e)) hg0 (fun r e => by cases e), Vis.start hS hhas, by simpa using hDn, ?_, ?_, by omega, HF0.out⟩
    · rw [World.cell?_of_block (w := W.alloc _) (a := ⟨W.heap.size, 2, none⟩) (hg0.block _ (by simp) (by simp))]; simp
    · rw [World.cell?_of_block (w := W.alloc _) (a := ⟨W.heap.size, 3, none⟩) (hg0.block _ (by simp) (by simp))]; simp
  case round =>
    obtain ⟨left, cnt, pre, hrg, hJp, hvis, hlen, hd2, hd3, hsz, hnf⟩ := hrel
    gi_wp2_with (gi_at_next; refine wpListIn_next_ranges _ rfl _ rfl 9 strLaw Rin Value.string regV invS invIn b (W.heap.size + 1) n _ _ _ rfl hrg ?_ ?_)
    · intro hc0 hl0
      gi_wp2
      go_end0
      exact ⟨⟨_, rfl⟩, .inl ⟨pre, hvis.done hS hl0, hJp⟩⟩
    · intro f z kl yd yp w3 cnt3 hkey hlk hv hat3 hrg3 hlt3 hg3 hs3 hen3
      obtain ⟨rfl, hfs⟩ := keyS hkey
      have hz := inner_step hhas hat0 hat3 hv
      obtain ⟨hzm, hzn, hzf⟩ := getR_mem hz
      have hJ3 : J pre w3 := hJ _ _ _ (some (W.heap.size + 1)) hJp hg3 (fun r e => by cases e; exact ⟨by omega, hrg.iter_walk⟩)
      have hJ4 : ∀ o, J pre (w3.alloc o) := fun o => hJ _ _ _ none hJ3 (World.grownBy_alloc w3 o none) (fun r e => by cases e)
      have hps := HPS.out z hzm hzn
      have hs3' : W.heap.size + 1 < w3.heap.size := by omega
      have hd23 : w3.cell? ⟨W.heap.size, 2, none⟩ = some (.int .i64 dl.c) := by
        rw [World.cell?_of_block (w := wr) (a := ⟨W.heap.size, 2, none⟩) (hg3.block W.heap.size (by omega) (fun e => by have := Option.some.inj e; omega))]; exact hd2
      have hd33 : w3.cell? ⟨W.heap.size, 3, none⟩ = some (.int .i64 dl.r) := by
        rw [World.cell?_of_block (w := wr) (a := ⟨W.heap.size, 3, none⟩) (hg3.block W.heap.size (by omega) (fun e => by have := Option.some.inj e; omega))]; exact hd3
      have HEND : Hid (∀ (o : Obj) (w5 : World), (w3.alloc o).grownBy w5 none → w5.ranges Tryz.prog 9 Rin b (W.heap.size + 1) n D (fun q => left q && !q.sameKey (keyL f)) cnt3 ∧ J pre w5 ∧ w5.cell? ⟨W.heap.size, 2, none⟩ = some (.int .i64 dl.c) ∧ w5.cell? ⟨W.heap.size, 3, none⟩ = some (.int .i64 dl.r) ∧ W.heap.size + 1 < w5.heap.size ∧ ¬ fp w5 W.heap.size) := by
        intro o w5 hg
        have hsz5 := hg.size
        rw [World.size_alloc] at hsz5
        refine ⟨(hrg3.alloc _).kept hg (by simp) (by simp), hJ _ _ _ none (hJ4 o) hg (fun r e => by cases e), ?_, ?_, by omega, fun h => hnf (hfp.kept _ _ (some (W.heap.size + 1)) (by omega) hg3 (fun r e => by cases e; obtain ⟨o, ho, hw⟩ := hrg.iter_walk; exact ⟨o, ho, Obj.not_cells_of_walk hw⟩) _ (hfp.kept _ _ none (by omega) (World.grownBy_alloc w3 o none) (fun r e => by cases e) _ (hfp.kept _ _ none (by simp; omega) hg (fun r e => by cases e) _ h)))⟩
        · rw [World.cell?_of_block (w := w3.alloc o) (a := ⟨W.heap.size, 2, none⟩) (hg.block W.heap.size (by rw [World.size_alloc]; omega) (by simp)), World.cell?_alloc_lt _ _ ⟨W.heap.size, 2, none⟩ (show W.heap.size < w3.heap.size from by omega)]; exact hd23
        · rw [World.cell?_of_block (w := w3.alloc o) (a := ⟨W.heap.size, 3, none⟩) (hg.block W.heap.size (by rw [World.size_alloc]; omega) (by simp)), World.cell?_alloc_lt _ _ ⟨W.heap.size, 3, none⟩ (show W.heap.size < w3.heap.size from by omega)]; exact hd33
      have HL : Hid (wr.rangeLeft b (W.heap.size + 1) = cnt) := hrg.left_eq
      have HVY : Hid (seenB l name z = true → Vis l name (fun q => left q && !q.sameKey (keyL f)) (pre ++ [z])) := fun hp => hvis.yes hS hz hlk hp
      have HVN : Hid (seenB l name z = false → Vis l name (fun q => left q && !q.sameKey (keyL f)) pre) := fun hp => hvis.no hS hz hp
      have HSUB : Hid (∀ y ∈ pre, y ∈ fieldsL l name) := hvis.sub
      have HY : Hid (∀ W1, J pre W1 → YieldAt Fence.wide (m - 1) Tryz.prog lp #[Value.agg #[.string z.n, .string z.f, .int .i64 z.c, .int .i64 z.r, .string z.v]] W1 fun e W' => (e = .returned (.bool true) ∧ J (pre ++ [z]) W' ∧ KeepC fp w.heap.size W1 W') ∨ (e = .returned (.bool false) ∧ Jx (pre ++ [z]) W')) := fun W1 h1 => hY pre z W1 h1 (by omega)
      have HZ : Hid (z ∈ l) := hzm
      have HPZ : Hid (seenB l name z = passB (getR l name ⟨#[]⟩) z) := hps
      unfold regV at hen3 ⊢
      clear hs3 hg3 hd2 hd3 hrg hJp hvis hJ3 hJ4 hps hzn hzf hz hzm hat3 hlk hkey hv hsz hY hrg3 hW hJ hJx h0 hM c1 c2 c3 L1 L2 L3 d1 d2 d3 hown hhas hat0 hrg0 hg0 hs0 e1 e2
      cases db
      · obtain ⟨h5r, h5J, h52, h53, h5s, h5f⟩ := HEND.out (.cells #[.string z.n, .string z.f, .int .i64 z.c, .int .i64 z.r, .string z.v] 99) _ ⟨rfl, rfl, rfl, Nat.le_refl _, fun _ _ _ => rfl⟩
        have hsee : seenB l name z = true := by
          rw [HPZ.out]
          cases hg : getR l name ⟨#[]⟩ with
          | none => rfl
          | some d => have := HD.out.2; rw [hg] at this; cases this
        obtain ⟨fn, tmps, assign, body, hy, hR⟩ := HY.out _ h5J
        gi_wp2
        refine ⟨trivial, ?_⟩
        gi_wp2
        refine hR.mono ?_
        rintro e W5 (⟨rfl, hJ5, hk5⟩ | ⟨rfl, hx5⟩)
        · have hr6 := h5r.of_walks hk5.1
          have c2 := hk5.2.cell (by omega) h5f h52
          have c3 := hk5.2.cell (by omega) h5f h53
          have hnf6 : ¬ fp W5 W.heap.size := fun h => by
            rcases hk5.2.2.2 _ h with h1 | h1
            · exact h5f h1
            · omega
          have hs6 := Nat.lt_of_lt_of_le h5s hk5.1.size
          gi_wp2
          go_roundw
          case rel => exact ⟨_, cnt3, pre ++ [z], hr6, hJ5, HVY.out hsee, by simp; omega, c2, c3, hs6, hnf6⟩
          case measure => rw [hr6.left_eq, HL.out]; exact hlt3
        · gi_wp2
          refine bodyPost_ret (results_none rfl _ _ _) rfl ?_
          exact ⟨⟨_, rfl⟩, .inr ⟨pre ++ [z], ⟨by simp, fun y hy => by
            rcases List.mem_append.1 hy with h | h
            · exact HSUB.out y h
            · simp at h; subst h; exact List.mem_filter.2 ⟨HZ.out, hsee⟩⟩, hx5⟩⟩
      · have hdel : getR l name ⟨#[]⟩ = some dl := by
          cases hg : getR l name ⟨#[]⟩ with
          | none => have := HD.out.2; rw [hg] at this; cases this
          | some d => have := HD.out.1; rw [hg] at this; rw [← this]; rfl
        have hsee : seenB l name z = laterB z dl := by rw [HPZ.out, hdel]; rfl
        have hLt := fun w' => later_any z dl w'
        have q2 : (w3.alloc (.cells #[.string z.n, .string z.f, .int .i64 z.c, .int .i64 z.r, .string z.v] 99)).cell? ⟨W.heap.size, 2, none⟩ = some (.int .i64 dl.c) := (HEND.out _ _ ⟨rfl, rfl, rfl, Nat.le_refl _, fun _ _ _ => rfl⟩).2.2.1
        have q3 : (w3.alloc (.cells #[.string z.n, .string z.f, .int .i64 z.c, .int .i64 z.r, .string z.v] 99)).cell? ⟨W.heap.size, 3, none⟩ = some (.int .i64 dl.r) := (HEND.out _ _ ⟨rfl, rfl, rfl, Nat.le_refl _, fun _ _ _ => rfl⟩).2.2.2.1
        cases hlt : laterB z dl
        · rw [hlt] at hsee
          rw [hlt] at hLt
          gi_wp2_with (first | (refine ⟨trivial, ?_⟩; gi_at_call 93; refine (callsIn_wide.2 (hLt _)).mono ?_; rintro e w5 ⟨rfl, hb5⟩) | (gi_at_call 93; refine (callsIn_wide.2 (hLt _)).mono ?_; rintro e w5 ⟨rfl, hb5⟩))
          obtain ⟨h5r, h5J, h52, h53, h5s, h5f⟩ := HEND.out _ _ (below_grown hb5)
          go_roundw
          case rel => exact ⟨_, cnt3, pre, h5r, h5J, HVN.out hsee, by omega, h52, h53, h5s, h5f⟩
          case measure => rw [h5r.left_eq, HL.out]; exact hlt3
        · rw [hlt] at hsee
          rw [hlt] at hLt
          gi_wp2_with (first | (refine ⟨trivial, ?_⟩; gi_at_call 93; refine (callsIn_wide.2 (hLt _)).mono ?_; rintro e w5 ⟨rfl, hb5⟩; obtain ⟨h5r, h5J, h52, h53, h5s, h5f⟩ := HEND.out _ _ (below_grown hb5); obtain ⟨z0, z1, z2, z3, z4⟩ := box_five (w := w3) (x := z) (hb5.mono (by rw [World.size_alloc]; exact Nat.le_refl _)); obtain ⟨fn, tmps, assign, body, hy, hR⟩ := HY.out _ h5J) | (gi_at_call 93; refine (callsIn_wide.2 (hLt _)).mono ?_; rintro e w5 ⟨rfl, hb5⟩; obtain ⟨h5r, h5J, h52, h53, h5s, h5f⟩ := HEND.out _ _ (below_grown hb5); obtain ⟨z0, z1, z2, z3, z4⟩ := box_five (w := w3) (x := z) (hb5.mono (by rw [World.size_alloc]; exact Nat.le_refl _)); obtain ⟨fn, tmps, assign, body, hy, hR⟩ := HY.out _ h5J))
          refine hR.mono ?_
          rintro e W5 (⟨rfl, hJ5, hk5⟩ | ⟨rfl, hx5⟩)
          · have hr6 := h5r.of_walks hk5.1
            have c2 := hk5.2.cell (by omega) h5f h52
            have c3 := hk5.2.cell (by omega) h5f h53
            have hnf6 : ¬ fp W5 W.heap.size := fun h => by
              rcases hk5.2.2.2 _ h with h1 | h1
              · exact h5f h1
              · omega
            have hs6 := Nat.lt_of_lt_of_le h5s hk5.1.size
            gi_wp2
            go_roundw
            case rel => exact ⟨_, cnt3, pre ++ [z], hr6, hJ5, HVY.out hsee, by simp; omega, c2, c3, hs6, hnf6⟩
            case measure => rw [hr6.left_eq, HL.out]; exact hlt3
          · gi_wp2
            refine bodyPost_ret (results_none rfl _ _ _) rfl ?_
            exact ⟨⟨_, rfl⟩, .inr ⟨pre ++ [z], ⟨by simp, fun y hy => by
              rcases List.mem_append.1 hy with h | h
              · exact HSUB.out y h
              · simp at h; subst h; exact List.mem_filter.2 ⟨HZ.out, hsee⟩⟩, hx5⟩⟩
end Go.Proofs.YtjhlijobdihplaaGreatDoor
namespace Go.Proofs.YtjhlijobdihplaaGreatDoor
open Go.RowKit Go.Maps Go.Shelf
attribute [local go_sem] Oper.semAt_some

theorem fieldsL_noName {l : List Reg} {name : ByteArray} (h : hasN l name = false) : fieldsL l name = [] := by
  rw [fieldsL, List.filter_eq_nil_iff]
  intro y hy hs
  have : hasN l name = true := hasN_iff.2 ⟨y, hy, seen_name hs⟩
  rw [h] at this; cases this

set_option maxRecDepth 100000 in
set_option maxHeartbeats 1000000 in
theorem seen1_nil (m : Nat) (bb nbx p o : Nat) (r0 : Option Nat) (l : List Reg) (name : ByteArray) (w : World) (h1 : w.cell? ⟨bb, 0, none⟩ = some (.pointer (some ⟨p, o, none⟩))) (h2 : w.cell? ⟨nbx, 0, none⟩ = some (.string name)) (hc : w.cell? ⟨p, o, none⟩ = some (.map r0))
    (hL : ∀ W, Below w.heap.size w W → (Instr.lookup 104 (.map r0) (.string name) false).run Tryz.prog W = .ok (.map none) W) (hn : hasN l name = false) (fp : World → Nat → Prop) (B N : Nat) :
    SeqStopsK Fence.wide m Tryz.prog 94 #[.pointer (some ⟨bb, 0, none⟩), .pointer (some ⟨nbx, 0, none⟩)] (fun x : Reg => #[Value.agg #[.string x.n, .string x.f, .int .i64 x.c, .int .i64 x.r, .string x.v]]) (KeepC fp B)
      (fun xs => xs.Perm (fieldsL l name)) (fun pre => pre ≠ [] ∧ ∀ y ∈ pre, y ∈ fieldsL l name) N w := fun lp J Jx W hW hJ hJx hY h0 => by
  have lt_of : ∀ {q j : Nat} {u : Value}, w.cell? ⟨q, j, none⟩ = some u → q < w.heap.size := fun {q j u} h => by
    rcases Nat.lt_or_ge q w.heap.size with h' | h'
    · exact h'
    · simp [World.cell?, Array.getElem?_eq_none h'] at h
  have l1 := lt_of h1
  have l2 := lt_of h2
  have l3 := lt_of hc
  have hWs := hW.size
  have c1 : W.cell? ⟨bb, 0, none⟩ = some (.pointer (some ⟨p, o, none⟩)) := (hW.cell (p := ⟨bb, 0, none⟩) l1).trans h1
  have c2 : W.cell? ⟨nbx, 0, none⟩ = some (.string name) := (hW.cell (p := ⟨nbx, 0, none⟩) l2).trans h2
  have c3 : W.cell? ⟨p, o, none⟩ = some (.map r0) := (hW.cell (p := ⟨p, o, none⟩) l3).trans hc
  have L1 := hL W.drew hW.drew
  have L2 : ∀ ob, (Instr.lookup 104 (.map r0) (.string name) false).run Tryz.prog (W.alloc ob).drew = .ok (.map none) (W.alloc ob).drew := fun ob => hL _ (hW.alloc hW.size _).drew
  have L3 : ∀ ob, (Instr.lookup 104 (.map r0) (.string name) false).run Tryz.prog (W.alloc ob).drew.drew = .ok (.map none) (W.alloc ob).drew.drew := fun ob => hL _ (hW.alloc hW.size _).drew.drew
  have d1 : ∀ ob, (W.alloc ob).cell? ⟨bb, 0, none⟩ = some (.pointer (some ⟨p, o, none⟩)) := fun ob => by rw [World.cell?_alloc_lt _ _ ⟨bb, 0, none⟩ (Nat.lt_of_lt_of_le l1 hWs)]; exact c1
  have d2 : ∀ ob, (W.alloc ob).cell? ⟨nbx, 0, none⟩ = some (.string name) := fun ob => by rw [World.cell?_alloc_lt _ _ ⟨nbx, 0, none⟩ (Nat.lt_of_lt_of_le l2 hWs)]; exact c2
  have d3 : ∀ ob, (W.alloc ob).cell? ⟨p, o, none⟩ = some (.map r0) := fun ob => by rw [World.cell?_alloc_lt _ _ ⟨p, o, none⟩ (Nat.lt_of_lt_of_le l3 hWs)]; exact c3
  clear hL h1 h2 hc
  have e0 := fun Y => Maps.look_nil (w := Y) (P := Tryz.prog) true strLaw Tryz.underlying150 (zeroReg_run Y) (keyOf_s (s := ⟨#[]⟩) (by unfold maxLen; decide))
  simp only [if_true] at e0
  have hrg := fun w' => run_range_nilMap (P := Tryz.prog) w' 150 9 99 Tryz.underlying150
  have hnx := fun ty => run_next_nilMap (P := Tryz.prog) (W.alloc (.cells #[.string ⟨#[]⟩, .string ⟨#[]⟩, .int .i64 0, .int .i64 0, .string ⟨#[]⟩] 99)) ty 0 0 #[]
  simp only [World.size_alloc] at hnx
  have HJ : Hid (∀ o1 o2 Y, (W.alloc o1).grownBy Y none → J [] (Y.alloc o2)) := fun o1 o2 Y hg => hJ _ _ _ none (hJ _ _ _ none (hJ _ _ _ none h0 (World.grownBy_alloc W o1 none) (fun r e => by cases e)) hg (fun r e => by cases e)) (World.grownBy_alloc _ o2 none) (fun r e => by cases e)
  clear hY hJ hJx h0
  refine callsIn_wide.2 ?_
  show Calls Tryz.prog 94 #[.func (.yield lp) #[] #[], .pointer (some ⟨bb, 0, none⟩), .pointer (some ⟨nbx, 0, none⟩)] W _
  go_enter Tryz.func94, Tryz.ntmps94
  go_wp2
  go_cut [4, 5] (fun s4 s5 wd => s4 = .pointer (some ⟨W.heap.size, 0, none⟩) ∧ s5 = .bool false ∧ wd = (W.alloc (.cells #[.string ⟨#[]⟩, .string ⟨#[]⟩, .int .i64 0, .int .i64 0, .string ⟨#[]⟩] 99)).drew)
  case first =>
    clear HJ
    go_region
    all_goals go_wp2
    all_goals go_meet
    all_goals case rel => exact ⟨rfl, rfl, rfl⟩
  case rest =>
  obtain ⟨rfl, rfl, rfl⟩ := hcut
  have hrg2 := hrg ((W.alloc (.cells #[.string ⟨#[]⟩, .string ⟨#[]⟩, .int .i64 0, .int .i64 0, .string ⟨#[]⟩] 99)).drew.drew)
  obtain ⟨Y, hY⟩ : ∃ Y, (W.alloc (.cells #[.string ⟨#[]⟩, .string ⟨#[]⟩, .int .i64 0, .int .i64 0, .string ⟨#[]⟩] 99)).drew.drew = Y := ⟨_, rfl⟩
  have hYs : Y.heap.size = W.heap.size + 1 := by rw [← hY]; show (W.alloc _).heap.size = _; simp
  have hnY := fun ty => run_next_nilMap (P := Tryz.prog) Y ty 0 0 #[]
  have HYJ : Hid (J [] (Y.alloc (.mapIter none 0 #[] 0))) := by
    rw [← hY]
    exact HJ.out _ _ _ ⟨rfl, rfl, rfl, Nat.le_refl _, fun _ _ _ => rfl⟩
  have hr2 : (Instr.range 150 (.map none)).run Tryz.prog ((W.alloc (.cells #[.string ⟨#[]⟩, .string ⟨#[]⟩, .int .i64 0, .int .i64 0, .string ⟨#[]⟩] 99)).drew.drew) = .ok (.pointer (some ⟨Y.heap.size, 0, none⟩)) (Y.alloc (.mapIter none 0 #[] 0)) := by rw [hrg2, hY]
  clear hrg hrg2 hnx HJ
  simp only [hYs] at hnY hr2
  go_wp2
  go_cut [24] (fun s24 wd => s24 = .pointer (some ⟨W.heap.size + 1, 0, none⟩) ∧ wd = Y.alloc (.mapIter none 0 #[] 0))
  case first =>
    clear HYJ hY
    go_region
    all_goals go_wp2
    all_goals go_meet
    all_goals case rel => exact ⟨rfl, rfl⟩
  case rest =>
  obtain ⟨rfl, rfl⟩ := hcut
  clear hr2 hY
  go_wp2
  refine wp_loop_rounds 1 ?_
  rw [rounds_succ]
  go_wp2
  go_end0
  exact ⟨⟨_, rfl⟩, .inl ⟨[], by rw [fieldsL_noName hn], HYJ.out⟩⟩

/-- b.seen(name), as an iterator, whatever the book -/
theorem seen1_any (m : Nat) (hm : 2 ≤ m) (bb nbx p o n : Nat) (v : Value) (M : Nat) (nb : ByteArray → Nat) (l : List Reg) (name : ByteArray) (w : World) (h1 : w.cell? ⟨bb, 0, none⟩ = some (.pointer (some ⟨p, o, none⟩))) (h2 : w.cell? ⟨nbx, 0, none⟩ = some (.string name)) (hc : w.cell? ⟨p, o, none⟩ = some v) (hv : ∃ r, v = .map r)
    (hB : BookAt w v M nb l n) (hS : SortedB l) (hs : name.size ≤ maxLen) (fp : World → Nat → Prop) (hfp : FpOk fp w) :
    SeqStopsK Fence.wide m Tryz.prog 94 #[.pointer (some ⟨bb, 0, none⟩), .pointer (some ⟨nbx, 0, none⟩)] (fun x : Reg => #[Value.agg #[.string x.n, .string x.f, .int .i64 x.c, .int .i64 x.r, .string x.v]]) (KeepC fp w.heap.size)
      (fun xs => xs.Perm (fieldsL l name)) (fun pre => pre ≠ [] ∧ ∀ y ∈ pre, y ∈ fieldsL l name) n w := by
  obtain ⟨r0, rfl⟩ := hv
  have hL : ∀ W, Below w.heap.size w W → (Instr.lookup 104 (.map r0) (.string name) false).run Tryz.prog W = .ok (conV l nb name) W := fun W hW => (hB.below hW).contact hs
  unfold conV at hL
  cases hh : hasN l name
  · rw [hh] at hL
    exact seen1_nil m bb nbx p o r0 l name w h1 h2 hc hL hh _ _ _
  · rw [hh] at hL
    rcases hB with ⟨_, rfl⟩ | ⟨_, h⟩
    · simp [hasN] at hh
    · exact seen1_stops m hm bb nbx p o (nb name) n r0 l name w h1 h2 hc hL (h.2.1 name hh).1 hS fp hfp

set_option maxHeartbeats 400000 in
theorem seen_any (a : Option Addr) (name : ByteArray) (w : World) :
    Calls Tryz.prog 83 #[.pointer a, .string name] w fun e w' => e = .returned (.func (.func 94) #[] #[.pointer (some ⟨w.heap.size, 0, none⟩), .pointer (some ⟨w.heap.size + 1, 0, none⟩)]) ∧ w' = (w.alloc (.cells #[.pointer a] 147)).alloc (.cells #[.string name] 9) := by
  go_enter Tryz.func83, Tryz.ntmps83
  go_wp2
  go_ret
  exact ⟨rfl, rfl⟩

theorem conV_map (l : List Reg) (nb : ByteArray → Nat) (s : ByteArray) : ∃ r, conV l nb s = .map r := by
  unfold conV
  split
  · exact ⟨_, rfl⟩
  · exact ⟨_, rfl⟩

theorem box3 (W : World) (a b c : Value) (t1 t2 t3 : TypeId) : (((W.alloc (.cells #[a] t1)).alloc (.cells #[b] t2)).alloc (.cells #[c] t3)).cell? ⟨W.heap.size, 0, none⟩ = some a ∧
    (((W.alloc (.cells #[a] t1)).alloc (.cells #[b] t2)).alloc (.cells #[c] t3)).cell? ⟨W.heap.size + 1, 0, none⟩ = some b ∧ (((W.alloc (.cells #[a] t1)).alloc (.cells #[b] t2)).alloc (.cells #[c] t3)).cell? ⟨W.heap.size + 1 + 1, 0, none⟩ = some c := by
  refine ⟨(((Boxed.new W t1 a).alloc _).alloc _).cell, ?_, ?_⟩
  · have := ((Boxed.new (W.alloc (.cells #[a] t1)) t2 b).alloc (.cells #[c] t3)).cell
    rw [World.size_alloc] at this
    exact this
  · have := (Boxed.new ((W.alloc (.cells #[a] t1)).alloc (.cells #[b] t2)) t3 c).cell
    rw [World.size_alloc, World.size_alloc] at this
    exact this

theorem keepC_t {fp : World → Nat → Prop} {B : Nat} {A C D : World} (h : KeepC fp B A C) (k : KeepC fp B C D) : KeepC fp B A D := h.trans k
theorem keepL_b {fp : World → Nat → Prop} {w0 : World} (hfp : FpOk fp w0) {B : Nat} (W : World) (l : Nat) (o o' : Obj) (hW : w0.heap.size ≤ W.heap.size) (h : W.heap[l]? = some o) (hc : o.isCells = false) : KeepL fp B W (W.putObj l o') :=
  ⟨by simp [World.putObj], fun k o2 _ _ ho2 hc2 => by
    by_cases e : k = l
    · subst e
      rw [h] at ho2
      cases ho2
      rw [hc] at hc2; cases hc2
    · exact (World.putObj_heap_other e).trans ho2, fun k hk => .inl (hfp.kept _ _ (some l) hW (grownBy_putObj' W l o') (fun r e => by cases e; exact ⟨o, h, hc⟩) k hk)⟩
theorem keepC_b {fp : World → Nat → Prop} {w0 : World} (hfp : FpOk fp w0) {B : Nat} {n₀ : Nat} (hn : w0.heap.size ≤ n₀) (W : World) (l : Nat) (o o' : Obj) (hl : n₀ ≤ l) (h : W.heap[l]? = some o) (hc : o.isCells = false) (hw : o.isWalk = false) : KeepC fp B W (W.putObj l o') :=
  ⟨KeepsWalks.putObj _ h hw, keepL_b hfp W l o o' (by have := (Array.getElem?_eq_some_iff.1 h).1; omega) h hc⟩

set_option maxRecDepth 100000 in
set_option maxHeartbeats 2000000 in
theorem shows_any (p o M n : Nat) (v : Value) (nb : ByteArray → Nat) (l : List Reg) (name : ByteArray) (w : World) (hc : w.cell? ⟨p, o, none⟩ = some v) (hv : ∃ r, v = .map r) (hB : BookAt w v M nb l n) (hS : SortedB l) (hs : name.size ≤ maxLen) :
    Calls Tryz.prog 62 #[.pointer (some ⟨p, o, none⟩), .string name] w fun e w' => e = .returned (.bool (decide (0 < (fieldsL l name).length))) ∧ Below w.heap.size w w' := by
  have hpl : p < w.heap.size := by
    rcases Nat.lt_or_ge p w.heap.size with h | h
    · exact h
    · simp [World.cell?, Array.getElem?_eq_none h] at hc
  obtain ⟨r0, rfl⟩ := hv
  have hW0 : Below w.heap.size w (w.alloc (.cells #[.bool false] 4)) := (Below.refl _ _).alloc (Nat.le_refl _) _
  refine (callsIn_wide (n := 5)).1 ?_
  refine callsIn_of_wp_marks Tryz.func62 rfl trivial ?_ rfl
  simp only [Tryz.ntmps62, List.size_toArray, List.length_cons, List.length_nil, Nat.reduceAdd, Nat.reduceSub, Array.replicate_succ, Array.replicate_zero, List.push_toArray, List.append_toArray, List.nil_append, List.cons_append]
  gi_wp2_with (refine ⟨trivial, ?_⟩; gi_at_call 83; refine (callsIn_wide.2 (seen_any (some ⟨p, o, none⟩) name _)).mono ?_; rintro e w' ⟨rfl, rfl⟩)
  have hW1 : Below w.heap.size w (((w.alloc (.cells #[.bool false] 4)).alloc (.cells #[.pointer (some ⟨p, o, none⟩)] 147)).alloc (.cells #[.string name] 9)) := (hW0.alloc (by simp) _).alloc (by simp; omega) _
  obtain ⟨W0, hW0e⟩ : ∃ W0, ((w.alloc (.cells #[.bool false] 4)).alloc (.cells #[.pointer (some ⟨p, o, none⟩)] 147)).alloc (.cells #[.string name] 9) = W0 := ⟨_, rfl⟩
  have hsz : W0.heap.size = w.heap.size + 3 := by rw [← hW0e]; simp
  obtain ⟨hres, hb1, hb2⟩ := box3 w (.bool false) (.pointer (some ⟨p, o, none⟩)) (.string name) 4 147 9
  have hrf : W0.frozen? ⟨w.heap.size, 0, none⟩ = false := by rw [← hW0e]; exact (((Boxed.new w 4 (.bool false)).alloc _).alloc _).frozen
  rw [hW0e] at hres hb1 hb2
  rw [hW0e] at hW1 ⊢
  have hcW : W0.cell? ⟨p, o, none⟩ = some (.map r0) := (hW1.cell (p := ⟨p, o, none⟩) hpl).trans hc
  have hseq := seen1_any 4 (by omega) (w.heap.size + 1) (w.heap.size + 1 + 1) p o n (.map r0) M nb l name W0 hb1 hb2 hcW ⟨r0, rfl⟩ (hB.below hW1) hS hs noFp (noFp_ok _)
  refine wpIn_rangeFunc_ownF rfl (by omega) (gf := 94) (lb := #[.pointer (some ⟨w.heap.size + 1, 0, none⟩), .pointer (some ⟨w.heap.size + 1 + 1, 0, none⟩)]) rfl trivial (enters_of Tryz.func94 (by kernel_rfl) rfl)
    hseq keepC_t (keepC_b (noFp_ok W0) (Nat.le_refl _)) (Below.refl _ _) (fun _ => rfl)
    (fun pre W => (pre = [] ∧ W.cell? ⟨w.heap.size, 0, none⟩ = some (.bool false) ∧ W.frozen? ⟨w.heap.size, 0, none⟩ = false) ∧ Below w.heap.size w W)
    (fun c pre W => (c = .ret ∧ W.cell? ⟨w.heap.size, 0, none⟩ = some (.bool true)) ∧ Below w.heap.size w W)
    (OwnFrom.and (Own.from (fun s A B row hs hg hr => ⟨hs.1, cell_kept hs.2.1 hg hr, (frozen_kept hs.2.1 hg hr).trans hs.2.2⟩) _) (ownFrom_below (Nat.le_refl _) (by rw [hsz]; omega)))
    (fun c => OwnFrom.and (Own.from (fun s A B row hs hg hr => ⟨hs.1, cell_kept hs.2 hg hr⟩) _) (ownFrom_below (Nat.le_refl _) (by rw [hsz]; omega)))
    ⟨⟨rfl, hres, hrf⟩, hW1⟩
    (fun x => { tmps := #[.pointer (some ⟨p, o, none⟩), .string name, undef, undef, .pointer (some ⟨w.heap.size, 0, none⟩), .pointer (some ⟨p, o, none⟩), .string name, .func (.func 94) #[] #[.pointer (some ⟨w.heap.size + 1, 0, none⟩), .pointer (some ⟨w.heap.size + 1 + 1, 0, none⟩)], .agg #[.string x.n, .string x.f, .int .i64 x.c, .int .i64 x.r, .string x.v]], defers := [] }) ?assign ?body ?done ?stop
  case assign =>
    intro lq x W K hK
    gi_wp2
    simpa using hK
  case body =>
    rintro lq pre x W ⟨⟨hp, hcr, hfr⟩, hB⟩ _
    gi_wp2
    exact ⟨KeepsOthers.setCell _ _ _, ⟨rfl, World.cell?_setCell_same' _ _ _ (by rw [hcr]; rfl)⟩, hB.setCell (p := ⟨w.heap.size, 0, none⟩) (by simp) _⟩
  case done =>
    rintro D ys W hD hS2 ⟨⟨rfl, hcr, hfr⟩, hB⟩ hK
    have hF : fieldsL l name = [] := List.Perm.nil_eq hS2 |>.symm
    gi_wp2
    have hK' := (KeepsOthers.setCell W ⟨w.heap.size, 0, none⟩ (.bool false)).same D _ hK rfl
    refine ⟨by simp, .inl ⟨_, _, rfl, run_takeDeferred hK', ?_⟩⟩
    have hc5 := cell_kept (World.cell?_setCell_same' W ⟨w.heap.size, 0, none⟩ (.bool false) (by rw [hcr]; rfl)) (grownBy_putObj' _ D (.deferred none)) (fun r e => by cases e; exact ⟨_, hK', rfl⟩)
    refine ⟨.bool false, ?_, by rw [hF]; rfl, (hB.setCell (p := ⟨w.heap.size, 0, none⟩) (by simp) _).trans (belowK_b (w := w) (Nat.le_refl _) _ D _ _ (by omega) hK' rfl rfl)⟩
    simp [results, Tryz.f62, go_sem, hc5]
  case stop =>
    rintro D c pre W hD ⟨hpre, hsub⟩ ⟨⟨rfl, hcr⟩, hB⟩ hK
    have hF : 0 < (fieldsL l name).length := by
      cases pre with
      | nil => exact absurd rfl hpre
      | cons y r => exact List.length_pos_of_mem (hsub y (by simp))
    gi_wp2
    refine ⟨by simp, .inl ⟨_, _, rfl, run_takeDeferred hK, ?_⟩⟩
    have hc5 := cell_kept hcr (grownBy_putObj' _ D (.deferred none)) (fun r e => by cases e; exact ⟨_, hK, rfl⟩)
    refine ⟨.bool true, ?_, by rw [decide_eq_true hF], hB.trans (belowK_b (w := w) (Nat.le_refl _) W D _ _ (by omega) hK rfl rfl)⟩
    simp [results, Tryz.f62, go_sem, hc5]
end Go.Proofs.YtjhlijobdihplaaGreatDoor
