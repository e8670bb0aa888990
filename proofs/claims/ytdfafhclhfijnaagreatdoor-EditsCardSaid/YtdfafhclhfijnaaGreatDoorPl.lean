import Derived.WalkKit
namespace Go.Proofs.YtdfafhclhfijnaaGreatDoor
open Go.RowKit

/-- A register of the document's answer. -/
structure Reg where
  n : ByteArray
  f : ByteArray
  c : Int
  r : Int
  v : ByteArray

def Reg.cells (x : Reg) : List Value := [.string x.n, .string x.f, .int .i64 x.c, .int .i64 x.r, .string x.v]

def eqS (a b : ByteArray) : Bool := a.toList == b.toList
def ltS (a b : ByteArray) : Bool := Op.bytesLess a.toList b.toList

def sameKeyB (a b : Reg) : Bool := eqS a.n b.n && eqS a.f b.f
def aheadB (a b : Reg) : Bool := if eqS a.n b.n then ltS a.f b.f else ltS a.n b.n
def winsB (a b : Reg) : Bool := if a.c = b.c then (if a.r = b.r then (!ltS a.v b.v && !eqS a.v b.v) else decide (b.r < a.r)) else decide (b.c < a.c)

def rowCells (l : List Reg) : List Value := l.flatMap Reg.cells

theorem rowCells_length : ∀ l : List Reg, (rowCells l).length = l.length * 5
  | [] => rfl
  | x :: r => by
    have := rowCells_length r
    simp only [rowCells, List.flatMap_cons, List.length_append, List.length_cons] at this ⊢
    simp only [Reg.cells, List.length_cons, List.length_nil]
    omega

def zeroReg : Reg := ⟨ByteArray.empty, ByteArray.empty, 0, 0, ByteArray.empty⟩

/-- The i-th of a book. -/
def reg (l : List Reg) (i : Nat) : Reg := l.getD i zeroReg

theorem rowCells_get : ∀ (l : List Reg) (i j : Nat), i < l.length → j < 5 → (rowCells l)[i * 5 + j]? = (reg l i).cells[j]?
  | [], i, _, h, _ => by simp at h
  | x :: r, i, j, h, hj => by
    have e : rowCells (x :: r) = x.cells ++ rowCells r := rfl
    have lc : x.cells.length = 5 := rfl
    cases i with
    | zero =>
      rw [e, List.getElem?_append_left (by rw [lc]; omega)]
      simp [reg]
    | succ i =>
      rw [e, List.getElem?_append_right (by rw [lc]; omega), lc]
      have e2 : (i + 1) * 5 + j - 5 = i * 5 + j := by omega
      rw [e2, rowCells_get r i j (by simpa using h) hj]
      simp [reg]

/-- A book's slice: the registers lie behind it. -/
def Bk (t : TypeId) (w : World) (v : Value) (l : List Reg) : Prop := w.ownsRow 0 t 5 v l.length (rowCells l)

theorem Bk.shape {t : TypeId} {w : World} {a : Option Addr} {n cap : Nat} {l : List Reg} (h : Bk t w (.slice a n cap) l) : n = l.length ∧ (l ≠ [] → ∃ g, a = some ⟨g, 0, none⟩) := by
  obtain ⟨_, ⟨he, hn⟩ | ⟨g, c, cur, he, _⟩⟩ := h
  · cases he
    exact ⟨hn.symm, fun h => absurd (List.length_eq_zero_iff.1 hn) h⟩
  · cases he
    exact ⟨rfl, fun _ => ⟨g, rfl⟩⟩

theorem Bk.cellN {t : TypeId} {w : World} {g n cap : Nat} {l : List Reg} (h : Bk t w (.slice (some ⟨g, 0, none⟩) n cap) l) (i j : Nat) (hi : i < l.length) (hj : j < 5) :
    w.cell? ⟨g, i * 5 + j, none⟩ = (reg l i).cells[j]? := by
  obtain ⟨hl, ⟨he, _⟩ | ⟨g', c, cur, he, _, hb, h1, _, hs, ht⟩⟩ := h
  · cases he
  · cases he
    have hlt : i * 5 + j < l.length * 5 := by omega
    have hc : cur.toList[i * 5 + j]? = (rowCells l)[i * 5 + j]? := by
      rw [← ht, List.getElem?_take_of_lt hlt]
    rw [rowCells_get l i j hi hj] at hc
    simpa [World.cell?, hb] using hc

theorem Bk.lt {t : TypeId} {w : World} {g n cap : Nat} {l : List Reg} (h : Bk t w (.slice (some ⟨g, 0, none⟩) n cap) l) : g < w.heap.size := by
  obtain ⟨hl, ⟨he, _⟩ | ⟨g', c, cur, he, _, hb, _⟩⟩ := h
  · cases he
  · cases he
    exact (Array.getElem?_eq_some_iff.1 hb).1

theorem Bk.below {t : TypeId} {w w' : World} {B : Nat} {v : Value} {l : List Reg} (h : Bk t w v l) (hB : w.heap.size ≤ B) (hb : Below B w w') : Bk t w' v l := by
  obtain ⟨hl, ⟨he, hn⟩ | ⟨g', c, cur, he, h0, hb', r⟩⟩ := h
  · exact ⟨hl, .inl ⟨he, hn⟩⟩
  · refine ⟨hl, .inr ⟨g', c, cur, he, h0, ?_, r⟩⟩
    rw [hb.block g' (by have := (Array.getElem?_eq_some_iff.1 hb').1; omega), hb']

/-- the five cells of the i-th register -/
theorem Bk.five {t : TypeId} {w : World} {g n cap : Nat} {l : List Reg} (h : Bk t w (.slice (some ⟨g, 0, none⟩) n cap) l) (i : Nat) (hi : i < l.length) :
    w.cell? ⟨g, i * 5, none⟩ = some (.string (reg l i).n) ∧ w.cell? ⟨g, i * 5 + 1, none⟩ = some (.string (reg l i).f) ∧ w.cell? ⟨g, i * 5 + 2, none⟩ = some (.int .i64 (reg l i).c) ∧
    w.cell? ⟨g, i * 5 + 3, none⟩ = some (.int .i64 (reg l i).r) ∧ w.cell? ⟨g, i * 5 + 4, none⟩ = some (.string (reg l i).v) :=
  ⟨h.cellN i 0 hi (by omega), h.cellN i 1 hi (by omega), h.cellN i 2 hi (by omega), h.cellN i 3 hi (by omega), h.cellN i 4 hi (by omega)⟩

theorem below_box {w wr : World} {o : Obj} (hb : Below (w.heap.size + 1) (w.alloc o) wr) : Below w.heap.size w wr :=
  ((Below.refl _ w).alloc (Nat.le_refl _) o).trans (hb.mono (by omega))

theorem box_cell {w wr : World} {cs : Array Value} {t : TypeId} (hb : Below (w.heap.size + 1) (w.alloc (.cells cs t)) wr) {j : Nat} {v : Value} (h : cs[j]? = some v) : wr.cell? ⟨w.heap.size, j, none⟩ = some v := by
  rw [hb.cell (p := ⟨w.heap.size, j, none⟩) (by simp), World.cell?_alloc_at cs t _ _ rfl, h]

/-- the five cells of a boxed register -/
theorem box_five {w wr : World} {t : TypeId} {x : Reg} (hb : Below (w.heap.size + 1) (w.alloc (.cells #[.string x.n, .string x.f, .int .i64 x.c, .int .i64 x.r, .string x.v] t)) wr) :
    wr.cell? ⟨w.heap.size, 0, none⟩ = some (.string x.n) ∧ wr.cell? ⟨w.heap.size, 1, none⟩ = some (.string x.f) ∧ wr.cell? ⟨w.heap.size, 2, none⟩ = some (.int .i64 x.c) ∧
    wr.cell? ⟨w.heap.size, 3, none⟩ = some (.int .i64 x.r) ∧ wr.cell? ⟨w.heap.size, 4, none⟩ = some (.string x.v) :=
  ⟨box_cell hb rfl, box_cell hb rfl, box_cell hb rfl, box_cell hb rfl, box_cell hb rfl⟩

theorem ret_int {k : IntKind} {a b : Int} (h : a = b) : Ending.returned (.int k a) = .returned (.int k b) := by rw [h]
theorem ret_bool {a b : Bool} (h : a = b) : Ending.returned (.bool a) = .returned (.bool b) := by rw [h]
theorem val_int {k : IntKind} {a b : Int} (h : a = b) : Value.int k a = .int k b := by rw [h]

theorem take_reg (l : List Reg) (k : Nat) (h : k < l.length) : l.take (k + 1) = l.take k ++ [reg l k] := by
  rw [List.take_succ_eq_append_getElem h]
  simp [reg, List.getD, h]

theorem reg_mem {l : List Reg} {k : Nat} (h : k < l.length) : reg l k ∈ l := by
  simp only [reg, List.getD, List.getElem?_eq_getElem h, Option.getD_some]
  exact List.getElem_mem h

/-! ### the greatest counter -/
def clockL (l : List Reg) : Int := l.foldl (fun n x => if n < x.c then x.c else n) 0
theorem clockL_snoc (l : List Reg) (x : Reg) : clockL (l ++ [x]) = if clockL l < x.c then x.c else clockL l := by unfold clockL; rw [List.foldl_append]; rfl
theorem clockL_yes {l : List Reg} {k : Nat} (h : k < l.length) (hc : clockL (l.take k) < (reg l k).c) : (reg l k).c = clockL (l.take (k + 1)) := by rw [take_reg l k h, clockL_snoc, if_pos hc]
theorem clockL_no {l : List Reg} {k : Nat} (h : k < l.length) (hc : ¬ clockL (l.take k) < (reg l k).c) : clockL (l.take k) = clockL (l.take (k + 1)) := by rw [take_reg l k h, clockL_snoc, if_neg hc]

/-! ### where a key is -/
def findI (l : List Reg) (x : Reg) : Int := match l.findIdx? (fun y => sameKeyB y x) with
  | some i => i
  | none => -1
theorem findI_yes {l : List Reg} {x : Reg} {k : Nat} (h : k < l.length) (hn : ∀ i, i < k → sameKeyB (reg l i) x = false) (hk : sameKeyB (reg l k) x = true) : findI l x = k := by
  have e : l.findIdx? (fun y => sameKeyB y x) = some k := by
    rw [List.findIdx?_eq_some_iff_getElem]
    refine ⟨h, by simpa [reg, List.getD, h] using hk, fun j hj => ?_⟩
    have := hn j hj
    have hjl : j < l.length := by omega
    simpa [reg, List.getD, hjl] using this
  rw [findI, e]
theorem findI_no {l : List Reg} {x : Reg} (hn : ∀ i, i < l.length → sameKeyB (reg l i) x = false) : findI l x = -1 := by
  have e : l.findIdx? (fun y => sameKeyB y x) = none := by
    rw [List.findIdx?_eq_none_iff]
    intro y hy
    obtain ⟨i, hi, rfl⟩ := List.getElem_of_mem hy
    have := hn i hi
    simpa [reg, List.getD, hi] using this
  rw [findI, e]

end Go.Proofs.YtdfafhclhfijnaaGreatDoor
