import Derived.Test.YtjhlijobdihplaaGreatDoorX3
import Derived.Lib.ItoaNum
import Derived.Lib.AppendIntMem
import Derived.Test.YtjhlijobdihplaaGreatDoorM15
import Derived.Stop.LaidErr
import Derived.LaidSub
import Derived.Lib.LaidTab
namespace Go.Proofs.YtjhlijobdihplaaGreatDoor
open Go.RowKit

theorem one_digit (u : Nat) (h : u < 10) : strOfNums [48 + (u : Int) % 10] = ⟨(Lib.decDigits u).toArray⟩ := by
  rw [Lib.decDigits, dif_pos h]
  have e : (48 + (u : Int) % 10).toNat = 48 + u := by omega
  simp [strOfNums, e]
theorem mk_app (a b : List UInt8) : (ByteArray.mk a.toArray) ++ (ByteArray.mk b.toArray) = ⟨(a ++ b).toArray⟩ := by
  apply ByteArray.ext
  rw [ByteArray.data_append]
  simp
theorem decB_eq : ∀ (f u : Nat), u < 10 ^ (f + 1) → decB f (u : Int) = ⟨(Lib.decDigits u).toArray⟩
  | 0, u, h => by
    unfold decB
    exact one_digit u (by simpa using h)
  | f + 1, u, h => by
    unfold decB
    by_cases hu : u < 10
    · rw [if_pos (by omega)]
      exact one_digit u hu
    · rw [if_neg (by omega)]
      have e : ((u : Int) / 10) = ((u / 10 : Nat) : Int) := by omega
      rw [e, decB_eq f (u / 10) (by rw [Nat.pow_succ] at h; omega), Lib.decDigits.eq_def u, dif_neg hu, ← mk_app]
      have e2 : (48 + (u : Int) % 10).toNat = 48 + u % 10 := by omega
      simp [strOfNums, e2]
/-- strconv.Itoa's text is the document's -/
theorem decL_itoa (n : Int) (h0 : -9223372036854775808 ≤ n) (h1 : n ≤ 9223372036854775807) : (⟨(Lib.itoa n).toArray⟩ : ByteArray) = decL n := by
  unfold Lib.itoa decL
  by_cases hn : n < 0
  · rw [if_pos hn, if_pos hn]
    have e : (⟨(45 :: Lib.decDigits n.natAbs).toArray⟩ : ByteArray) = minusB ++ decB 19 (n.natAbs : Int) := by
      rw [decB_eq 19 n.natAbs (by omega)]
      exact (mk_app [45] _).symm
    rw [e]
    have e2 : (n.natAbs : Int) = -n := by omega
    rw [e2]
    split
    · rename_i h; subst h; rfl
    · rfl
  · rw [if_neg hn, if_neg hn, ← decB_eq 19 n.toNat (by omega)]
    have e2 : (n.toNat : Int) = n := by omega
    rw [e2]

/-- strconv's table lies as its initialiser lays it -/
def TabT (w : World) : Prop := Lib.TabIs Tryz.prog w "internal/strconv.uint64pow10" .u64 Lib.pow10Tab
theorem tabT_below {w w' : World} (h : TabT w) (hb : Below w.heap.size w w') : TabT w' := Lib.tabBelow_of_tabIs h w' hb
/-- the hash so far, and a text behind it -/
def addN (h : Int) (t : List UInt8) : Int := t.foldl hashStep h
def line1 (y : Reg) : ByteArray := y.n ++ ⟨#[46]⟩ ++ y.f ++ ⟨#[32]⟩ ++ decL y.c ++ ⟨#[32]⟩ ++ decL y.r ++ ⟨#[32]⟩ ++ decL (y.v.size : Int) ++ ⟨#[32]⟩ ++ y.v ++ ⟨#[10]⟩
theorem line_app (s : ByteArray) (y : Reg) : lineB s y = s ++ line1 y := by
  unfold lineB line1
  apply ByteArray.ext
  simp only [ByteArray.data_append, Array.append_assoc]
theorem addN_app (h : Int) (a b : ByteArray) : addN h (a ++ b).data.toList = addN (addN h a.data.toList) b.data.toList := by
  unfold addN
  rw [ByteArray.data_append, Array.toList_append, List.foldl_append]
/-- the registers whose keys begin so -/
def beginL (l : List Reg) (s : ByteArray) : List Reg := l.filter fun y => beginsB (keyB y) s
def hashRegs (h : Int) (F : List Reg) : Int := F.foldl (fun h y => addN h (line1 y).data.toList) h
theorem hash_lines (s : ByteArray) : ∀ (l : List Reg) (acc : ByteArray), hashN (l.foldl (linesStep s) acc).data.toList = hashRegs (hashN acc.data.toList) (beginL l s)
  | [], acc => rfl
  | y :: r, acc => by
    rw [List.foldl_cons, hash_lines s r]
    unfold beginL linesStep
    cases hb : beginsB (keyB y) s
    · rw [List.filter_cons_of_neg (by simp [hb])]; simp
    · rw [List.filter_cons_of_pos (by simp [hb])]
      simp only [if_true, hashRegs, List.foldl_cons]
      rw [line_app]
      congr 1
      exact addN_app _ acc (line1 y)
theorem hash_linesL (l : List Reg) (s : ByteArray) : hashN (linesL l s).data.toList = hashRegs 14695981039346656037 (beginL l s) := hash_lines s l ⟨#[]⟩
end Go.Proofs.YtjhlijobdihplaaGreatDoor
namespace Go.Proofs.YtjhlijobdihplaaGreatDoor
open Go.ChangeShapes Go.WideShapes Go.ChangeAt Go.RowKit Go.Deep

theorem Tryz.own : ownKnob Tryz.prog.godebug = none := by kernel_rfl
theorem Tryz.et : Tryz.prog.globalNamed "errors.errorType" = some 0 := by kernel_rfl
theorem Tryz.gp : Tryz.prog.globalNamed "internal/strconv.uint64pow10" = some 2 := by kernel_rfl
theorem Tryz.gpType : (Tryz.prog.globals[2]?).map (·.type) = some 218 := by kernel_rfl
theorem Tryz.cellsU : Tryz.prog.cellsOf 103 = 1 := by kernel_rfl
theorem Tryz.cellsP : Tryz.prog.cellsOf 218 = 20 := by kernel_rfl
theorem Tryz.rt : (Tryz.prog.cutTypes.find? (·.1 == "internal/reflectlite.rtype")).map (·.2) = some 159 := by kernel_rfl
theorem Tryz.oneRow : ((List.range 251).filter fun t => Tryz.prog.rowNamed t [101, 114, 114, 111, 114]) = [74] := by kernel_rfl
theorem Tryz.sizeT : Tryz.prog.types.size = 251 := by kernel_rfl
theorem Tryz.laidOutE : laidOutB Tryz.prog = true := by kernel_rfl

/-- what the rows' list gives: the tables, the variable's one cell -/
theorem laid_parts {W : World} (h : laidMetH Tryz.prog Rows.booksRow.laid W) : laidMet Tryz.prog [("math/bits.deBruijn32tab", Rows.laid_math_bits_deBruijn32tab), ("math/bits.deBruijn64tab", Rows.laid_math_bits_deBruijn64tab), ("internal/strconv.uint64pow10", Rows.laid_internal_strconv_uint64pow10)] W ∧ handlesMet Tryz.prog [("errors.errorType", Rows.laid_errors_errorType)] W := laidMetH_iff.1 h
theorem errT_of_laid {W : World} (h : laidMetH Tryz.prog Rows.booksRow.laid W) : ErrT W := by
  obtain ⟨name, u, ty, e1, e2, e3, e4, e5⟩ := (laid_parts h).2 _ (List.mem_singleton.2 rfl)
  have en : name = [101, 114, 114, 111, 114] := (Option.some.inj e1).symm
  subst en
  obtain rfl := Option.some.inj (Tryz.rt.symm.trans e2)
  have hm : ty ∈ (List.range 251).filter fun t => Tryz.prog.rowNamed t [101, 114, 114, 111, 114] := List.mem_filter.2 ⟨List.mem_range.2 (by rw [← Tryz.sizeT]; exact e3), e4⟩
  rw [Tryz.oneRow] at hm
  obtain rfl := List.mem_singleton.1 hm
  have hh : typeHandle Tryz.prog 74 = .pointer (some ⟨5, 74, none⟩) := by kernel_rfl
  rw [hh] at e5
  unfold ErrT
  simpa using World.var?_cell Tryz.et e5 0
theorem pow10_datum : (Rows.laid_internal_strconv_uint64pow10 : DataW Unit) = Lib.tabData .u64 Lib.pow10Tab := by kernel_rfl
theorem tabT_of_laid {W : World} (h : laidMetH Tryz.prog Rows.booksRow.laid W) : TabT W := by
  have h3 := (laid_parts h).1.tail.tail
  rw [pow10_datum] at h3
  exact Lib.tabIs_of_head Tryz.gp Tryz.gpType Tryz.underlying218 Tryz.underlying103 Tryz.cellsU Tryz.cellsP h3

/-- a table's cells, as its datum has them -/
def tabCells : DataW Unit → Array Value
  | .agg ds => (ds.map fun | .lit (.int k z) => Value.int k z | _ => undef).toArray
  | _ => #[]
/-- a world for the witnesses: the settled one, the listed variables laid -/
def putRow (cs : Array Value) : Obj → Obj
  | .cells _ t frozen => .cells cs t frozen
  | o => o
noncomputable def laidWorld (os : Os) : World :=
  { World.holding Tryz.prog os ⟨#[], #[], []⟩ with heap := ((((World.holding Tryz.prog os ⟨#[], #[], []⟩).heap.modify 0 (putRow #[.iface 159 (.agg #[.pointer (some ⟨5, 74, none⟩)])])).modify 2 (putRow (tabCells Rows.laid_internal_strconv_uint64pow10))).modify 3 (putRow (tabCells Rows.laid_math_bits_deBruijn32tab))).modify 4 (putRow (tabCells Rows.laid_math_bits_deBruijn64tab)) }
theorem laid_met (os : Os) (args : Array Value) : laidMetH Tryz.prog Rows.booksRow.laid ((laidWorld os).forCall (fun _ _ => 0) ⟨#[], args, []⟩).memory :=
  laidMetH_of_parts (laidMet_of_run' 8 (by kernel_rfl) (by kernel_rfl)) (by kernel_rfl)
end Go.Proofs.YtjhlijobdihplaaGreatDoor
