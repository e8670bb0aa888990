import Derived.Test.YtdfafhclhfijnaaGreatDoorProg
import Derived.WalkKit
import Derived.WalkSpells
import Derived.WalkLawsBesides
import Derived.LaidEql
import Derived.Stop.Asserts
import Derived.RowKitTokens
namespace Go.Proofs.YtdfafhclhfijnaaGreatDoor
open Go.RowKit Go.Extern.Stop Go.Stop Go.Extern

theorem isTypeOf (v : Value) (w : World) : (ReflectliteType.typeOf #[.iface 113 v]).run Tryz.prog w = .ok (.iface 155 (.agg #[.pointer (some ⟨2, 113, none⟩)])) w := by kernel_rfl
theorem isCompM (h : Value) (w : World) : (Go.method 334 155 (.agg #[h]) "Comparable").run Tryz.prog w = .ok (155, .agg #[h]) w := by kernel_rfl

theorem isComp (w : World) : (callFunc 155 #[.agg #[.pointer (some ⟨2, 113, none⟩)]]).run Tryz.prog w = .ok (.value (.bool true)) w := by kernel_rfl

theorem isEql1 (e : Addr) (k : Int) (w : World) : (binOp .eql 74 (.iface 110 (.pointer (some e))) (.iface 113 (.int .i64 k))).run Tryz.prog w = .ok (.bool false) w := by kernel_rfl
theorem isEql2 (n k : Int) (w : World) : (binOp .eql 74 (.iface 113 (.int .i64 n)) (.iface 113 (.int .i64 k))).run Tryz.prog w = .ok (.bool (n == k)) w := by kernel_rfl

theorem ta1 (v : Value) (xT : TypeId) (w : World) : (Instr.typeAssert (.iface 110 v) xT 167 true).run Tryz.prog w = .ok (.tuple #[.nilIface, .bool false]) w := run_typeAssert_lacksB Tryz.underlying167 (by kernel_rfl) (by kernel_rfl) v xT w
theorem ta2 (v : Value) (xT : TypeId) (w : World) : (Instr.typeAssert (.iface 110 v) xT 162 true).run Tryz.prog w = .ok (.tuple #[.iface 110 v, .bool true]) w := run_typeAssert_hasB Tryz.underlying162 (by kernel_rfl) v xT w
theorem ta3 (v : Value) (xT : TypeId) (w : World) : (Instr.typeAssert (.iface 113 v) xT 167 true).run Tryz.prog w = .ok (.tuple #[.nilIface, .bool false]) w := run_typeAssert_lacksB Tryz.underlying167 (by kernel_rfl) (by kernel_rfl) v xT w
theorem ta4 (v : Value) (xT : TypeId) (w : World) : (Instr.typeAssert (.iface 113 v) xT 162 true).run Tryz.prog w = .ok (.tuple #[.nilIface, .bool false]) w := run_typeAssert_lacksB Tryz.underlying162 (by kernel_rfl) (by kernel_rfl) v xT w
theorem ta5 (v : Value) (xT : TypeId) (w : World) : (Instr.typeAssert (.iface 113 v) xT 164 true).run Tryz.prog w = .ok (.tuple #[.nilIface, .bool false]) w := run_typeAssert_lacksB Tryz.underlying164 (by kernel_rfl) (by kernel_rfl) v xT w
theorem isUnw (e : Addr) (w : World) : (Go.method 334 110 (.pointer (some e)) "Unwrap").run Tryz.prog w = .ok (148, .pointer (some e)) w := by kernel_rfl

set_option maxRecDepth 100000 in
set_option maxHeartbeats 1000000 in
theorem errIs_any (e : Addr) (k n : Int) (w : World) (hc : w.cell? e = some (.int .i64 n)) (_hk : 0 ≤ k) (_hn : k ≤ 9) :
    Calls Tryz.prog 54 #[.iface 110 (.pointer (some e)), .iface 113 (.int .i64 k)] w fun ev w' => ev = .returned (.bool (n == k)) ∧ w' = w := by
  have h10 := @run_callFunc_extern Tryz.prog 74 _ ReflectliteType.typeOf Tryz.func74 (by kernel_rfl) (by kernel_rfl) (by kernel_rfl) (by kernel_rfl)
  have tO := isTypeOf
  have mC := isCompM
  have cO := isComp
  have q1 := isEql1
  have q2 := isEql2
  have t1 := ta1
  have t2 := ta2
  have t3 := ta3
  have t4 := ta4
  have t5 := ta5
  have uW := isUnw
  cases hnk : (n == k)
  all_goals
    go_enter Tryz.func54, Tryz.ntmps54
    go_wp2
    refine wp_loop_rounds 2 ?_
    rw [rounds_succ]
    go_wp2
    rw [rounds_succ]
    go_wp2
    go_ret
    exact ⟨rfl, rfl⟩
end Go.Proofs.YtdfafhclhfijnaaGreatDoor
