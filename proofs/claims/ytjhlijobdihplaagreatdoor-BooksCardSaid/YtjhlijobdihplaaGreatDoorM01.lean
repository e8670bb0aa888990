import Derived.WalkKit
import Derived.Test.YtjhlijobdihplaaGreatDoorProg
import Derived.WalkSpells
import Derived.WalkLawsBesides
import Derived.Deep.RegionWith
import Derived.BigQuiet
import Derived.Deep.QuietTactic
namespace Go.Proofs.YtjhlijobdihplaaGreatDoor
open Go.RowKit

/-- A register of the document's answer. -/
structure Reg where
  n : ByteArray
  f : ByteArray
  c : Int
  r : Int
  v : ByteArray

def Reg.cells (x : Reg) : List Value := [.string x.n, .string x.f, .int .i64 x.c, .int .i64 x.r, .string x.v]

def eqS (a b : ByteArray) : Bool := a.toList == b.toList
def ltS (a b : ByteArray) : Bool := Op.bytesLess a.toList b.toList

def sameKeyB (a b : Reg) : Bool := eqS a.n b.n && eqS a.f b.f
def aheadB (a b : Reg) : Bool := if eqS a.n b.n then ltS a.f b.f else ltS a.n b.n
def winsB (a b : Reg) : Bool := if a.c = b.c then (if a.r = b.r then (!ltS a.v b.v && !eqS a.v b.v) else decide (b.r < a.r)) else decide (b.c < a.c)

def rowCells (l : List Reg) : List Value := l.flatMap Reg.cells

theorem rowCells_length : ∀ l : List Reg, (rowCells l).length = l.length * 5
  | [] => rfl
  | x :: r => by
    have := rowCells_length r
    simp only [rowCells, List.flatMap_cons, List.length_append, List.length_cons] at this ⊢
    simp only [Reg.cells, List.length_cons, List.length_nil]
    omega

def zeroReg : Reg := ⟨ByteArray.empty, ByteArray.empty, 0, 0, ByteArray.empty⟩

/-- The i-th of a book. -/
def reg (l : List Reg) (i : Nat) : Reg := l.getD i zeroReg

theorem rowCells_get : ∀ (l : List Reg) (i j : Nat), i < l.length → j < 5 → (rowCells l)[i * 5 + j]? = (reg l i).cells[j]?
  | [], i, _, h, _ => by simp at h
  | x :: r, i, j, h, hj => by
    have e : rowCells (x :: r) = x.cells ++ rowCells r := rfl
    have lc : x.cells.length = 5 := rfl
    cases i with
    | zero =>
      rw [e, List.getElem?_append_left (by rw [lc]; omega)]
      simp [reg]
    | succ i =>
      rw [e, List.getElem?_append_right (by rw [lc]; omega), lc]
      have e2 : (i + 1) * 5 + j - 5 = i * 5 + j := by omega
      rw [e2, rowCells_get r i j (by simpa using h) hj]
      simp [reg]

/-- A book's slice: the registers lie behind it. -/
def Bk (t : TypeId) (w : World) (v : Value) (l : List Reg) : Prop := w.ownsRow 0 t 5 v l.length (rowCells l)

theorem Bk.shape {t : TypeId} {w : World} {a : Option Addr} {n cap : Nat} {l : List Reg} (h : Bk t w (.slice a n cap) l) : n = l.length ∧ (l ≠ [] → ∃ g, a = some ⟨g, 0, none⟩) := by
  obtain ⟨_, ⟨he, hn⟩ | ⟨g, c, cur, he, _⟩⟩ := h
  · cases he
    exact ⟨hn.symm, fun h => absurd (List.length_eq_zero_iff.1 hn) h⟩
  · cases he
    exact ⟨rfl, fun _ => ⟨g, rfl⟩⟩

theorem Bk.cellN {t : TypeId} {w : World} {g n cap : Nat} {l : List Reg} (h : Bk t w (.slice (some ⟨g, 0, none⟩) n cap) l) (i j : Nat) (hi : i < l.length) (hj : j < 5) :
    w.cell? ⟨g, i * 5 + j, none⟩ = (reg l i).cells[j]? := by
  obtain ⟨hl, ⟨he, _⟩ | ⟨g', c, cur, he, _, hb, h1, _, hs, ht⟩⟩ := h
  · cases he
  · cases he
    have hlt : i * 5 + j < l.length * 5 := by omega
    have hc : cur.toList[i * 5 + j]? = (rowCells l)[i * 5 + j]? := by
      rw [← ht, List.getElem?_take_of_lt hlt]
    rw [rowCells_get l i j hi hj] at hc
    simpa [World.cell?, hb] using hc

theorem Bk.lt {t : TypeId} {w : World} {g n cap : Nat} {l : List Reg} (h : Bk t w (.slice (some ⟨g, 0, none⟩) n cap) l) : g < w.heap.size := by
  obtain ⟨hl, ⟨he, _⟩ | ⟨g', c, cur, he, _, hb, _⟩⟩ := h
  · cases he
  · cases he
    exact (Array.getElem?_eq_some_iff.1 hb).1

theorem Bk.below {t : TypeId} {w w' : World} {B : Nat} {v : Value} {l : List Reg} (h : Bk t w v l) (hB : w.heap.size ≤ B) (hb : Below B w w') : Bk t w' v l := by
  obtain ⟨hl, ⟨he, hn⟩ | ⟨g', c, cur, he, h0, hb', r⟩⟩ := h
  · exact ⟨hl, .inl ⟨he, hn⟩⟩
  · refine ⟨hl, .inr ⟨g', c, cur, he, h0, ?_, r⟩⟩
    rw [hb.block g' (by have := (Array.getElem?_eq_some_iff.1 hb').1; omega), hb']

/-- the five cells of the i-th register -/
theorem Bk.five {t : TypeId} {w : World} {g n cap : Nat} {l : List Reg} (h : Bk t w (.slice (some ⟨g, 0, none⟩) n cap) l) (i : Nat) (hi : i < l.length) :
    w.cell? ⟨g, i * 5, none⟩ = some (.string (reg l i).n) ∧ w.cell? ⟨g, i * 5 + 1, none⟩ = some (.string (reg l i).f) ∧ w.cell? ⟨g, i * 5 + 2, none⟩ = some (.int .i64 (reg l i).c) ∧
    w.cell? ⟨g, i * 5 + 3, none⟩ = some (.int .i64 (reg l i).r) ∧ w.cell? ⟨g, i * 5 + 4, none⟩ = some (.string (reg l i).v) :=
  ⟨h.cellN i 0 hi (by omega), h.cellN i 1 hi (by omega), h.cellN i 2 hi (by omega), h.cellN i 3 hi (by omega), h.cellN i 4 hi (by omega)⟩

theorem below_box {w wr : World} {o : Obj} (hb : Below (w.heap.size + 1) (w.alloc o) wr) : Below w.heap.size w wr :=
  ((Below.refl _ w).alloc (Nat.le_refl _) o).trans (hb.mono (by omega))

theorem box_cell {w wr : World} {cs : Array Value} {t : TypeId} (hb : Below (w.heap.size + 1) (w.alloc (.cells cs t)) wr) {j : Nat} {v : Value} (h : cs[j]? = some v) : wr.cell? ⟨w.heap.size, j, none⟩ = some v := by
  rw [hb.cell (p := ⟨w.heap.size, j, none⟩) (by simp), World.cell?_alloc_at cs t _ _ rfl, h]

/-- the five cells of a boxed register -/
theorem box_five {w wr : World} {t : TypeId} {x : Reg} (hb : Below (w.heap.size + 1) (w.alloc (.cells #[.string x.n, .string x.f, .int .i64 x.c, .int .i64 x.r, .string x.v] t)) wr) :
    wr.cell? ⟨w.heap.size, 0, none⟩ = some (.string x.n) ∧ wr.cell? ⟨w.heap.size, 1, none⟩ = some (.string x.f) ∧ wr.cell? ⟨w.heap.size, 2, none⟩ = some (.int .i64 x.c) ∧
    wr.cell? ⟨w.heap.size, 3, none⟩ = some (.int .i64 x.r) ∧ wr.cell? ⟨w.heap.size, 4, none⟩ = some (.string x.v) :=
  ⟨box_cell hb rfl, box_cell hb rfl, box_cell hb rfl, box_cell hb rfl, box_cell hb rfl⟩

theorem ret_int {k : IntKind} {a b : Int} (h : a = b) : Ending.returned (.int k a) = .returned (.int k b) := by rw [h]
theorem ret_bool {a b : Bool} (h : a = b) : Ending.returned (.bool a) = .returned (.bool b) := by rw [h]
theorem val_int {k : IntKind} {a b : Int} (h : a = b) : Value.int k a = .int k b := by rw [h]

theorem take_reg (l : List Reg) (k : Nat) (h : k < l.length) : l.take (k + 1) = l.take k ++ [reg l k] := by
  rw [List.take_succ_eq_append_getElem h]
  simp [reg, List.getD, h]

theorem reg_mem {l : List Reg} {k : Nat} (h : k < l.length) : reg l k ∈ l := by
  simp only [reg, List.getD, List.getElem?_eq_getElem h, Option.getD_some]
  exact List.getElem_mem h

/-! ### the greatest counter -/
def clockL (l : List Reg) : Int := l.foldl (fun n x => if n < x.c then x.c else n) 0
theorem clockL_snoc (l : List Reg) (x : Reg) : clockL (l ++ [x]) = if clockL l < x.c then x.c else clockL l := by unfold clockL; rw [List.foldl_append]; rfl
theorem clockL_yes {l : List Reg} {k : Nat} (h : k < l.length) (hc : clockL (l.take k) < (reg l k).c) : (reg l k).c = clockL (l.take (k + 1)) := by rw [take_reg l k h, clockL_snoc, if_pos hc]
theorem clockL_no {l : List Reg} {k : Nat} (h : k < l.length) (hc : ¬ clockL (l.take k) < (reg l k).c) : clockL (l.take k) = clockL (l.take (k + 1)) := by rw [take_reg l k h, clockL_snoc, if_neg hc]

/-! ### where a key is -/
def findI (l : List Reg) (x : Reg) : Int := match l.findIdx? (fun y => sameKeyB y x) with
  | some i => i
  | none => -1
theorem findI_yes {l : List Reg} {x : Reg} {k : Nat} (h : k < l.length) (hn : ∀ i, i < k → sameKeyB (reg l i) x = false) (hk : sameKeyB (reg l k) x = true) : findI l x = k := by
  have e : l.findIdx? (fun y => sameKeyB y x) = some k := by
    rw [List.findIdx?_eq_some_iff_getElem]
    refine ⟨h, by simpa [reg, List.getD, h] using hk, fun j hj => ?_⟩
    have := hn j hj
    have hjl : j < l.length := by omega
    simpa [reg, List.getD, hjl] using this
  rw [findI, e]
theorem findI_no {l : List Reg} {x : Reg} (hn : ∀ i, i < l.length → sameKeyB (reg l i) x = false) : findI l x = -1 := by
  have e : l.findIdx? (fun y => sameKeyB y x) = none := by
    rw [List.findIdx?_eq_none_iff]
    intro y hy
    obtain ⟨i, hi, rfl⟩ := List.getElem_of_mem hy
    have := hn i hi
    simpa [reg, List.getD, hi] using this
  rw [findI, e]

end Go.Proofs.YtjhlijobdihplaaGreatDoor
namespace Go.Proofs.YtjhlijobdihplaaGreatDoor
open Go.RowKit
set_option maxHeartbeats 400000 in
theorem sameKey_any (a b : Reg) (w : World) :
    Calls Tryz.prog 52 #[.agg #[.string a.n, .string a.f, .int .i64 a.c, .int .i64 a.r, .string a.v], .agg #[.string b.n, .string b.f, .int .i64 b.c, .int .i64 b.r, .string b.v]] w fun e w' => e = .returned (.bool (sameKeyB a b)) ∧ Below w.heap.size w w' := by
  go_enter Tryz.func52, Tryz.ntmps52
  go_wp2
  all_goals
    go_ret
    exact ⟨by simp [sameKeyB, eqS, *], ((Below.refl _ _).alloc (Nat.le_refl _) _).alloc (by simp) _⟩

set_option maxHeartbeats 400000 in
theorem ahead_any (a b : Reg) (w : World) :
    Calls Tryz.prog 53 #[.agg #[.string a.n, .string a.f, .int .i64 a.c, .int .i64 a.r, .string a.v], .agg #[.string b.n, .string b.f, .int .i64 b.c, .int .i64 b.r, .string b.v]] w fun e w' => e = .returned (.bool (aheadB a b)) ∧ Below w.heap.size w w' := by
  cases h1 : (a.n.toList == b.n.toList)
  all_goals
    go_enter Tryz.func53, Tryz.ntmps53
    go_wp2
    go_ret
    exact ⟨by simp [aheadB, eqS, ltS, h1], ((Below.refl _ _).alloc (Nat.le_refl _) _).alloc (by simp) _⟩

set_option maxHeartbeats 400000 in
theorem wins_any (a b : Reg) (w : World) :
    Calls Tryz.prog 54 #[.agg #[.string a.n, .string a.f, .int .i64 a.c, .int .i64 a.r, .string a.v], .agg #[.string b.n, .string b.f, .int .i64 b.c, .int .i64 b.r, .string b.v]] w fun e w' => e = .returned (.bool (winsB a b)) ∧ Below w.heap.size w w' := by
  cases h1 : (a.c == b.c) <;> cases h2 : (a.r == b.r)
  all_goals
    go_enter Tryz.func54, Tryz.ntmps54
    go_wp2
    go_ret
    exact ⟨by simp_all [winsB, eqS, ltS], ((Below.refl _ _).alloc (Nat.le_refl _) _).alloc (by simp) _⟩

set_option maxHeartbeats 400000 in
theorem clock_any (l : List Reg) (a : Option Addr) (cap : Nat) (w : World) (hB : Bk 57 w (.slice a l.length cap) l) (hl : l.length ≤ 9000) :
    Calls Tryz.prog 30 #[.slice a l.length cap] w fun e w' => e = .returned (.int .i64 (clockL l)) ∧ w' = w := by
  go_enter Tryz.func30, Tryz.ntmps30
  go_wp2
  go_loop [3, 4] (fun m i => ∃ k : Nat, k ≤ l.length ∧ i = .int .i64 k ∧ m = .int .i64 (clockL (l.take k))) (fun _ i => l.length - (intOf i).toNat)
  case atStart => exact ⟨0, Nat.zero_le _, rfl, rfl⟩
  case round =>
    obtain ⟨k, hk, rfl, rfl⟩ := hrel
    by_cases hlt : k < l.length
    · obtain ⟨g, rfl⟩ := hB.shape.2 (by intro h; simp [h] at hlt)
      obtain ⟨c0, c1, c2, c3, c4⟩ := hB.five k hlt
      by_cases hc : clockL (l.take k) < (reg l k).c
      · go_wp2
        go_round
        case rel => exact ⟨k + 1, by omega, by go_num, val_int (clockL_yes hlt hc)⟩
        case measure => simp [intOf]; omega
      · go_wp2
        go_round
        case rel => exact ⟨k + 1, by omega, by go_num, val_int (clockL_no hlt hc)⟩
        case measure => simp [intOf]; omega
    · go_wp2
      go_ret
      exact ⟨ret_int (by rw [List.take_of_length_le (by omega)]), rfl⟩

set_option maxHeartbeats 400000 in
theorem find_any (l : List Reg) (x : Reg) (a : Option Addr) (cap : Nat) (w : World) (hB : Bk 57 w (.slice a l.length cap) l) (hl : l.length ≤ 9000) :
    Calls Tryz.prog 46 #[.slice a l.length cap, .agg #[.string x.n, .string x.f, .int .i64 x.c, .int .i64 x.r, .string x.v]] w fun e w' => e = .returned (.int .i64 (findI l x)) ∧ Below w.heap.size w w' := by
  go_enter Tryz.func46, Tryz.ntmps46
  go_wp2
  go_loopw [5] (fun i wr => ∃ k : Nat, k ≤ l.length ∧ i = .int .i64 k ∧ (∀ i, i < k → sameKeyB (reg l i) x = false) ∧ Below (w.heap.size + 1) (w.alloc (.cells #[.string x.n, .string x.f, .int .i64 x.c, .int .i64 x.r, .string x.v] 57)) wr) (fun i _ => l.length - (intOf i).toNat)
  case atStart => exact ⟨0, Nat.zero_le _, rfl, fun i hi => by omega, Below.refl _ _⟩
  case round =>
    obtain ⟨k, hk, rfl, hn, hb⟩ := hrel
    by_cases hlt : k < l.length
    · obtain ⟨g, rfl⟩ := hB.shape.2 (by intro h; simp [h] at hlt)
      obtain ⟨c0, c1, c2, c3, c4⟩ := (hB.below (Nat.le_refl _) (below_box hb)).five k hlt
      obtain ⟨x0, x1, x2, x3, x4⟩ := box_five hb
      have hsz := hb.size
      rw [World.size_alloc] at hsz
      clear hB
      cases hs : sameKeyB (reg l k) x
      · go_wp2
        go_region_with (go_at_call 52; refine (sameKey_any (reg l k) x _).mono ?_; rintro e w' ⟨rfl, hb1⟩)
        all_goals
          have hb2 := hb.trans (Below.mono (B' := w.heap.size + 1) (Below.trans (b := wr.drew) ⟨rfl, rfl, rfl, Nat.le_refl _, fun _ _ => rfl⟩ hb1) (by first | exact hsz | (simp; exact hsz)))
          clear hb1 c0 c1 c2 c3 c4 x0 x1 x2 x3 x4
          go_wp2
          go_roundw
          case rel => exact ⟨k + 1, by omega, by go_num, fun i hi => (Nat.lt_succ_iff_lt_or_eq.1 hi).elim (hn i) (fun e => e ▸ hs), hb2⟩
          case measure => simp [intOf]; omega
      · go_wp2
        go_region_with (go_at_call 52; refine (sameKey_any (reg l k) x _).mono ?_; rintro e w' ⟨rfl, hb1⟩)
        all_goals
          have hb2 := hb.trans (Below.mono (B' := w.heap.size + 1) (Below.trans (b := wr.drew) ⟨rfl, rfl, rfl, Nat.le_refl _, fun _ _ => rfl⟩ hb1) (by first | exact hsz | (simp; exact hsz)))
          clear hb1 c0 c1 c2 c3 c4 x0 x1 x2 x3 x4
          go_wp2
          go_ret
          exact ⟨ret_int (findI_yes hlt hn hs).symm, below_box hb2⟩
    · go_wp2
      go_ret
      exact ⟨ret_int (findI_no (fun i hi => hn i (by omega))).symm, below_box hb⟩
end Go.Proofs.YtjhlijobdihplaaGreatDoor
namespace Go.Proofs.YtjhlijobdihplaaGreatDoor
open Go.RowKit
def letterB (c : UInt8) : Bool := decide (97 ≤ (c.toNat : Int)) && decide ((c.toNat : Int) ≤ 122)
def lettersB (s : List UInt8) : Bool := s.all letterB
def smallB (s : ByteArray) (m : Int) : Bool := lettersB s.data.toList && (decide (0 < s.size) && decide ((s.size : Int) ≤ m))

theorem take_byte (s : ByteArray) (k : Nat) (h : k < s.size) : s.data.toList.take (k + 1) = s.data.toList.take k ++ [s[k]] := by
  rw [List.take_succ_eq_append_getElem (by simpa using h)]; rfl
theorem letters_no (s : ByteArray) (k : Nat) (h : k < s.size) (hc : letterB s[k] = false) : lettersB s.data.toList = false := by
  rw [lettersB, List.all_eq_false]
  exact ⟨s[k], by simp [ByteArray.getElem_eq_getElem_data], by simp [hc]⟩
theorem letters_yes (s : ByteArray) (k : Nat) (h : k < s.size) (hl : lettersB (s.data.toList.take k) = true) (hc : letterB s[k] = true) : lettersB (s.data.toList.take (k + 1)) = true := by
  rw [take_byte s k h]
  unfold lettersB at hl ⊢
  rw [List.all_append, hl]
  simp [hc]
theorem letterB_yes {c : UInt8} (h : 97 ≤ (c.toNat : Int) ∧ (c.toNat : Int) ≤ 122) : letterB c = true := by simp only [letterB, h.1, h.2, decide_true, Bool.and_self]
theorem letterB_no {c : UInt8} (h : (c.toNat : Int) < 97 ∨ 122 < (c.toNat : Int)) : letterB c = false := by
  unfold letterB
  rcases h with h | h
  · rw [decide_eq_false (by omega)]; rfl
  · rw [decide_eq_false (p := (c.toNat : Int) ≤ 122) (by omega)]; simp

set_option maxHeartbeats 400000 in
theorem refSmall_any (s : ByteArray) (m : Int) (w : World) (hs : s.size ≤ maxLen) :
    Calls Tryz.prog 29 #[.string s, .int .i64 m] w fun e w' => e = .returned (.bool (smallB s m)) ∧ w' = w := by
  unfold maxLen at hs
  go_enter Tryz.func29, Tryz.ntmps29
  go_wp2
  go_loop [5] (fun i => ∃ k : Nat, k ≤ s.size ∧ i = .int .i64 k ∧ lettersB (s.data.toList.take k) = true) (fun i => s.size - (intOf i).toNat)
  case atStart => exact ⟨0, Nat.zero_le _, rfl, rfl⟩
  case round =>
    obtain ⟨k, hk, rfl, hl⟩ := hrel
    by_cases hlt : k < s.size
    · by_cases h1 : (s[k].toNat : Int) < 97
      · go_wp2
        go_ret
        exact ⟨ret_bool (by rw [smallB, letters_no s k hlt (letterB_no (.inl h1))]; rfl), rfl⟩
      · by_cases h2 : 122 < (s[k].toNat : Int)
        · go_wp2
          go_ret
          exact ⟨ret_bool (by rw [smallB, letters_no s k hlt (letterB_no (.inr h2))]; rfl), rfl⟩
        · go_wp2
          go_round
          case rel => exact ⟨k + 1, by omega, by go_num, letters_yes s k hlt hl (letterB_yes ⟨by omega, by omega⟩)⟩
          case measure => simp [intOf]; omega
    · have hall : lettersB s.data.toList = true := by
        rw [List.take_of_length_le (by simp; omega)] at hl; exact hl
      have H : Hid (lettersB s.data.toList = true) := hall
      clear hall hl
      by_cases h0 : 0 < s.size
      · go_wp2
        go_ret
        exact ⟨ret_bool (by rw [smallB, H.out]; simp [h0]), rfl⟩
      · go_wp2
        go_ret
        exact ⟨ret_bool (by rw [smallB, H.out]; simp [h0]), rfl⟩

def beginsB (s t : ByteArray) : Bool := decide (t.size ≤ s.size) && eqS (s.extract 0 t.size) t
set_option maxHeartbeats 400000 in
theorem begins_any (s t : ByteArray) (w : World) (_hs : s.size ≤ maxLen) (_ht : t.size ≤ maxLen) :
    Calls Tryz.prog 48 #[.string s, .string t] w fun e w' => e = .returned (.bool (beginsB s t)) ∧ w' = w := by
  unfold maxLen at _hs _ht
  by_cases h : t.size ≤ s.size
  all_goals
    go_enter Tryz.func48, Tryz.ntmps48
    go_wp2
    go_ret
    exact ⟨ret_bool (by simp [beginsB, eqS, h]), rfl⟩

def pickI (c n : Int) : Int := if c < 0 then -((c + 1).tmod n) else c % n
theorem pickI_lt (c n : Int) (hn : 0 < n) : 0 ≤ pickI c n ∧ pickI c n < n := by
  unfold pickI
  split
  · have h1 := Int.tmod_nonneg (a := -(c + 1)) n (by omega)
    rw [Int.neg_tmod] at h1
    have h2 := Int.tmod_lt_of_pos (-(c + 1)) hn
    rw [Int.neg_tmod] at h2
    exact ⟨h1, h2⟩
  · exact ⟨Int.emod_nonneg _ (by omega), Int.emod_lt_of_pos _ hn⟩
set_option maxHeartbeats 400000 in
theorem pick_any (c n : Int) (w : World) (hc : -9223372036854775808 ≤ c) (hc2 : c < 9223372036854775808) (hn : 0 < n) (hn2 : n ≤ 5000) :
    Calls Tryz.prog 11 #[.int .i64 c, .int .i64 n] w fun e w' => e = .returned (.int .i64 (pickI c n)) ∧ w' = w := by
  by_cases h : c < 0
  · go_enter Tryz.func11, Tryz.ntmps11
    go_wp2
    go_ret
    exact ⟨ret_int (by simp only [pickI, h, if_true]), rfl⟩
  · go_enter Tryz.func11, Tryz.ntmps11
    go_wp2
    go_ret
    exact ⟨ret_int (by rw [pickI, if_neg (by omega)]), rfl⟩

/-- A slice of texts. -/
def str (l : List ByteArray) (i : Nat) : ByteArray := l.getD i ByteArray.empty
def Tx (t : TypeId) (w : World) (v : Value) (l : List ByteArray) : Prop := w.ownsRow 0 t 1 v l.length (l.map Value.string)
theorem Tx.shape {t : TypeId} {w : World} {a : Option Addr} {n cap : Nat} {l : List ByteArray} (h : Tx t w (.slice a n cap) l) : n = l.length ∧ (l ≠ [] → ∃ g, a = some ⟨g, 0, none⟩) := by
  obtain ⟨_, ⟨he, hn⟩ | ⟨g, c, cur, he, _⟩⟩ := h
  · cases he
    exact ⟨hn.symm, fun h => absurd (List.length_eq_zero_iff.1 hn) h⟩
  · cases he
    exact ⟨rfl, fun _ => ⟨g, rfl⟩⟩
theorem Tx.cell {t : TypeId} {w : World} {g n cap : Nat} {l : List ByteArray} (h : Tx t w (.slice (some ⟨g, 0, none⟩) n cap) l) (i : Nat) (hi : i < l.length) :
    w.cell? ⟨g, i, none⟩ = some (.string (str l i)) := by
  obtain ⟨hl, ⟨he, _⟩ | ⟨g', c, cur, he, _, hb, h1, _, hs, ht⟩⟩ := h
  · cases he
  · cases he
    have hc : cur.toList[i]? = (l.map Value.string)[i]? := by
      rw [← ht, List.getElem?_take_of_lt (by omega)]
    simpa [World.cell?, hb, hi, str, List.getD] using hc
theorem Tx.below {t : TypeId} {w w' : World} {B : Nat} {v : Value} {l : List ByteArray} (h : Tx t w v l) (hB : w.heap.size ≤ B) (hb : Below B w w') : Tx t w' v l := by
  obtain ⟨hl, ⟨he, hn⟩ | ⟨g', c, cur, he, h0, hb', r⟩⟩ := h
  · exact ⟨hl, .inl ⟨he, hn⟩⟩
  · refine ⟨hl, .inr ⟨g', c, cur, he, h0, ?_, r⟩⟩
    rw [hb.block g' (by have := (Array.getElem?_eq_some_iff.1 hb').1; omega), hb']

theorem ext_str {a b : List ByteArray} (hl : a.length = b.length) (h : ∀ i, i < a.length → str a i = str b i) : a = b := by
  refine List.ext_getElem hl fun i h1 h2 => ?_
  have := h i h1
  simpa [str, List.getD, h1, h2] using this

/-- Two slices that hold the same texts are the same: true. (Of others nothing is asked.) -/
theorem same_any (l : List ByteArray) (a b : Option Addr) (ca cb : Nat) (w : World) (hA : Tx 9 w (.slice a l.length ca) l) (hB : Tx 9 w (.slice b l.length cb) l) (hl : l.length ≤ 20000) :
    Calls Tryz.prog 20 #[.slice a l.length ca, .slice b l.length cb] w fun e w' => e = .returned (.bool true) ∧ ∃ n, w' = w.drewN n := by
  go_enter Tryz.func20, Tryz.ntmps20
  go_wp2
  go_loopw [5] (fun i wr => ∃ k : Nat, k ≤ l.length ∧ i = .int .i64 k ∧ ∃ n, wr = w.drewN n) (fun i _ => l.length - (intOf i).toNat)
  case atStart => exact ⟨0, Nat.zero_le _, rfl, 0, rfl⟩
  case round =>
    obtain ⟨k, hk, rfl, n, rfl⟩ := hrel
    by_cases hlt : k < l.length
    · obtain ⟨g, rfl⟩ := hA.shape.2 (by intro h; simp [h] at hlt)
      obtain ⟨g2, rfl⟩ := hB.shape.2 (by intro h; simp [h] at hlt)
      have c1 := hA.cell k hlt
      have c2 := hB.cell k hlt
      go_wp2
      go_quiet (fail)
      go_wp2
      go_roundw
      case rel => exact ⟨k + 1, by omega, by go_num, _, rfl⟩
      case measure => simp [intOf]; omega
    · go_wp2
      go_ret
      exact ⟨rfl, n, rfl⟩
end Go.Proofs.YtjhlijobdihplaaGreatDoor
