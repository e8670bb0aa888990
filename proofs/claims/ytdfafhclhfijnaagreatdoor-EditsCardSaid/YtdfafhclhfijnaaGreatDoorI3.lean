import Derived.Test.YtdfafhclhfijnaaGreatDoorI2
import Derived.Test.YtdfafhclhfijnaaGreatDoorL1
import Derived.Lib.Bytealg
namespace Go.Proofs.YtdfafhclhfijnaaGreatDoor
open Go.RowKit Go.Maps Go.Shelf Go.Lib Go.Extern
open Go.Sort (grow SWO PermIn SortedIn Holds alloc_eq_grow grow_grow)

set_option maxRecDepth 100000 in
set_option maxHeartbeats 1000000 in
theorem byField_any (x y : Reg) (W : World) :
    Calls Tryz.prog 82 #[.agg #[.string x.n, .string x.f, .int .i64 x.c, .int .i64 x.r, .string x.v], .agg #[.string y.n, .string y.f, .int .i64 y.c, .int .i64 y.r, .string y.v]] W
      fun e w' => e = .returned (.int .i64 (compareBytes x.f.data.toList y.f.data.toList)) ∧ ∃ q os', w' = grow (W.drewN q) os' := by
  have h118 := @run_callFunc_extern Tryz.prog 118 _ BytealgCompare.compare Tryz.func118 (by kernel_rfl) (by kernel_rfl) (by kernel_rfl) (by kernel_rfl)
  have hcmp := run_compareString (P := Tryz.prog) x.f y.f
  go_enter Tryz.func82, Tryz.ntmps82
  go_wp2
  go_ret
  exact ⟨rfl, 0, _, by rw [alloc_eq_grow, alloc_eq_grow, grow_grow]; rfl⟩

theorem cb_lt : ∀ a b : List UInt8, decide (compareBytes a b < 0) = Op.bytesLess a b
  | [], [] => by simp [compareBytes, Op.bytesLess]
  | [], _ :: _ => by simp [compareBytes, Op.bytesLess]
  | _ :: _, [] => by simp [compareBytes, Op.bytesLess]
  | a :: x, b :: y => by
    have ih := cb_lt x y
    unfold compareBytes Op.bytesLess
    by_cases h1 : a < b
    · simp [h1]
    · by_cases h2 : b < a
      · have : ¬ a = b := fun e => by subst e; exact h1 h2
        simp [h1, h2, this]
      · have : a = b := by
          rw [UInt8.lt_iff_toNat_lt] at h1 h2
          exact UInt8.toNat_inj.1 (by omega)
        simp [this, ih]

def cmpF (x y : Reg) : Int := compareBytes x.f.data.toList y.f.data.toList
theorem ltF (x y : Reg) : ltOf cmpF x y = ltS x.f y.f := by
  unfold ltOf cmpF ltS
  rw [cb_lt, ByteArray.toList_eq, ByteArray.toList_eq]
theorem swoF : SWO (ltOf cmpF) where
  irrefl x := by rw [ltF]; exact bl_irrefl _
  trans x y z h1 h2 := by rw [ltF] at *; exact bl_trans _ _ _ h1 h2
  ntrans x y z h1 h2 := by
    rw [ltF] at *
    unfold ltS at *
    cases h3 : Op.bytesLess x.f.toList z.f.toList
    · rfl
    · by_cases e : y.f.toList = z.f.toList
      · rw [e, h3] at h1; cases h1
      · have h4 := bl_total _ _ e h2
        by_cases e2 : x.f.toList = y.f.toList
        · rw [e2, h2] at h3; cases h3
        · have h5 := bl_total _ _ e2 h1
          have h6 := bl_trans _ _ _ h3 h4
          rw [h1] at h6; cases h6

@[reducible] def regInh : Inhabited Reg := ⟨zeroReg⟩

theorem getR! (l : List Reg) (i : Nat) (h : i < l.length) : @getElem! _ _ _ _ _ regInh l.toArray i = reg l i := by
  letI := regInh
  show l.toArray[i]! = _
  rw [getElem!_pos l.toArray i (by simpa using h)]
  simp [reg, List.getD, h]

theorem flat_row (l : List Reg) : (@Go.Sort.flatK Reg regInh Reg.cells 5 l.toArray).toList = rowCells l := by
  letI := regInh
  apply List.ext_getElem?
  intro t
  by_cases h : t < l.length * 5
  · have h1 : t / 5 < l.length := by omega
    have e := rowCells_get l (t / 5) (t % 5) h1 (by omega)
    have e2 : t / 5 * 5 + t % 5 = t := by omega
    rw [e2] at e
    rw [e]
    have h2 := Go.Sort.get_flatK Reg.cells 5 l.toArray t (by simpa using h)
    rw [getElem!_pos _ t (by simpa using h)] at h2
    rw [Array.getElem?_toList, Array.getElem?_eq_getElem (by simpa using h), h2]
    have h3 := getR! l (t / 5) h1
    rw [h3]
    have h4 : t % 5 < (reg l (t / 5)).cells.length := by show t % 5 < 5; omega
    rw [getElem!_pos (reg l (t / 5)).cells (t % 5) h4, List.getElem?_eq_getElem h4]
  · rw [List.getElem?_eq_none (by simp; omega), List.getElem?_eq_none (by rw [rowCells_length]; omega)]

theorem encLen (x : Reg) : x.cells.length = 5 := rfl
theorem isAggReg (w : World) : (isAgg 99).run Tryz.prog w = .ok true w := by kernel_rfl
theorem sizeOfReg (w : World) : (Go.sizeOf 99).run Tryz.prog w = .ok 5 w := by kernel_rfl

set_option maxHeartbeats 1000000 in
/-- slices.SortFunc(s, byField), s a row of ours -/
theorem sortRegs (base g cap : Nat) (l : List Reg) (w : World) (h : w.ownsRow base 99 5 (.slice (some ⟨g, 0, none⟩) l.length cap) l.length (rowCells l)) (hl : l.length < 1000000) :
    Calls Tryz.prog 91 #[.slice (some ⟨g, 0, none⟩) l.length cap, .func (.func 82) #[] #[]] w
      fun e w' => e = .returned (.tuple #[]) ∧ ∃ l' : List Reg, l'.Perm l ∧ l'.Pairwise (fun a b => ltS b.f a.f = false) ∧ w'.ownsRow base 99 5 (.slice (some ⟨g, 0, none⟩) l.length cap) l.length (rowCells l') ∧ w.grownBy w' (some g) := by
  letI := regInh
  obtain ⟨hlen, ⟨he, _⟩ | ⟨g', c', cur, he, hbase, hb, h1, h2, h3, h4⟩⟩ := h
  · cases he
  · cases he
    have hg : g < w.heap.size := (Array.getElem?_eq_some_iff.1 hb).1
    have hH : Go.Sort.HoldsK Reg.cells 5 w g 0 l.toArray := by
      intro j hj
      have hj' : j < l.length * 5 := by simpa using hj
      refine ⟨?_, by simp [World.frozen?, hb]⟩
      have e1 : (cur.toList.take (l.length * 5))[j]? = (rowCells l)[j]? := by rw [h4]
      rw [List.getElem?_take_of_lt hj', ← flat_row l] at e1
      simp only [World.cell?, hb, Nat.zero_add]
      simp only [Option.isSome_none, Bool.false_eq_true, if_false]
      rw [← Array.getElem?_toList, e1, Array.getElem?_toList, Array.getElem?_eq_getElem hj, getElem!_pos _ j hj]
      rfl
    have eg : ∀ args w, (callFunc 82 args).run Tryz.prog w = .ok (.enter 82 args) w := enters_of Tryz.func82 (by kernel_rfl) rfl
    have hcmp : CmpLays Tryz.prog 82 #[] Reg.cells 5 cmpF g 0 l.toArray.size w := fun _ _ _ _ x y => byField_any x y _
    have hcon := AnyQ.slices_SortFunc Tryz.sortReg 5 isAggReg sizeOfReg Reg.cells encLen (fun x => cells_one x) cmpF swoF 82 #[] g 0 cap l.toArray w eg hcmp hH hg (by simp; omega)
    change Calls Tryz.prog 91 _ _ _ at hcon
    simp only [List.size_toArray] at hcon
    refine hcon.mono ?_
    rintro e w' ⟨rfl, d', nn, os, hp, hs, rfl⟩
    obtain ⟨hp1, hp2, hp3⟩ := hp
    have hds : d'.size = l.length := by simpa using hp1
    have hperm : d'.toList.Perm l := by
      have e1 : d'.extract 0 l.length = d' := by rw [← hds]; simp
      have e2 : l.toArray.extract 0 l.length = l.toArray := by simp
      rw [e1, e2] at hp3
      simpa using hp3
    refine ⟨rfl, d'.toList, hperm, ?_, ?_, ?_⟩
    · rw [List.pairwise_iff_getElem]
      intro i j hi hj hij
      have hi' : i < d'.size := by simpa using hi
      have hj' : j < d'.size := by simpa using hj
      have := hs i j (Nat.zero_le _) hij (by omega)
      rw [ltF, getElem!_pos d' i hi', getElem!_pos d' j hj'] at this
      simpa using this
    · refine ⟨by rw [rowCells_length]; simp [hds], .inr ⟨g, cap, Go.Sort.putCells id 0 (Go.Sort.flatK Reg.cells 5 d') cur, rfl, hbase, ?_, h1, h2, ?_, ?_⟩⟩
      · unfold sortWorldK Go.Sort.putRowK
        rw [Go.Sort.heap_grow_old _ _ (by simpa [Go.Sort.putRow, Go.Sort.mapBlock, Go.Sort.ahead] using hg)]
        simp [Go.Sort.putRow, Go.Sort.mapBlock, Go.Sort.ahead, Array.getElem?_modify, hb, Go.Sort.onCells]
      · simp [Go.Sort.putCells, h3]
      · have hfl := flat_row d'.toList
        simp only [Array.toArray_toList] at hfl
        rw [← hfl]
        apply List.ext_getElem?
        intro j
        by_cases hj : j < l.length * 5
        · rw [List.getElem?_take_of_lt hj, Array.getElem?_toList, Array.getElem?_toList]
          have hjc : j < cur.size := by rw [h3]; exact Nat.lt_of_lt_of_le hj (Nat.mul_le_mul_right _ h1)
          have hjf : j < (Go.Sort.flatK Reg.cells 5 d').size := by simpa [hds] using hj
          simp [Go.Sort.putCells, hjc, hds, hj]
        · rw [List.getElem?_take_eq_none (by omega), List.getElem?_eq_none (by simp [hds]; omega)]
    · refine ⟨rfl, rfl, rfl, by simp [sortWorldK, Go.Sort.putRowK, Go.Sort.putRow, Go.Sort.mapBlock, Go.Sort.ahead, grow], fun k hk hne => ?_⟩
      have hne' : g ≠ k := fun e => hne (by rw [e])
      unfold sortWorldK Go.Sort.putRowK
      rw [Go.Sort.heap_grow_old _ _ (by simpa [Go.Sort.putRow, Go.Sort.mapBlock, Go.Sort.ahead] using hk)]
      simp [Go.Sort.putRow, Go.Sort.mapBlock, Go.Sort.ahead, Array.getElem?_modify, hne']
end Go.Proofs.YtdfafhclhfijnaaGreatDoor
