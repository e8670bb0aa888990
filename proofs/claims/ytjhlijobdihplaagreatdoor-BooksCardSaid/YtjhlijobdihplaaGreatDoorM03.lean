import Derived.Test.YtjhlijobdihplaaGreatDoorProg
import Derived.WalkKit
import Derived.WalkSpells
import Derived.WalkLawsBesides
import Derived.LaidEql
import Derived.Stop.Asserts
import Derived.RowKitTokens
import Derived.Test.YtjhlijobdihplaaGreatDoorE1
import Derived.BigQuiet
import Derived.Deep.QuietTactic
import Derived.Deep.LoopGhost
import Derived.Deep.DeepMust
namespace Go.Proofs.YtjhlijobdihplaaGreatDoor
open Go.RowKit Go.Extern.Stop Go.Stop Go.Extern

theorem isTypeOf (v : Value) (w : World) : (ReflectliteType.typeOf #[.iface 113 v]).run Tryz.prog w = .ok (.iface 159 (.agg #[.pointer (some ⟨5, 113, none⟩)])) w := by kernel_rfl
theorem isCompM (h : Value) (w : World) : (Go.method 351 159 (.agg #[h]) "Comparable").run Tryz.prog w = .ok (179, .agg #[h]) w := by kernel_rfl

theorem isComp (w : World) : (callFunc 179 #[.agg #[.pointer (some ⟨5, 113, none⟩)]]).run Tryz.prog w = .ok (.value (.bool true)) w := by kernel_rfl

theorem isEql1 (e : Addr) (k : Int) (w : World) : (binOp .eql 74 (.iface 110 (.pointer (some e))) (.iface 113 (.int .i64 k))).run Tryz.prog w = .ok (.bool false) w := by kernel_rfl
theorem isEql2 (n k : Int) (w : World) : (binOp .eql 74 (.iface 113 (.int .i64 n)) (.iface 113 (.int .i64 k))).run Tryz.prog w = .ok (.bool (n == k)) w := by kernel_rfl

theorem ta1 (v : Value) (xT : TypeId) (w : World) : (Instr.typeAssert (.iface 110 v) xT 171 true).run Tryz.prog w = .ok (.tuple #[.nilIface, .bool false]) w := run_typeAssert_lacksB Tryz.underlying171 (by kernel_rfl) (by kernel_rfl) v xT w
theorem ta2 (v : Value) (xT : TypeId) (w : World) : (Instr.typeAssert (.iface 110 v) xT 166 true).run Tryz.prog w = .ok (.tuple #[.iface 110 v, .bool true]) w := run_typeAssert_hasB Tryz.underlying166 (by kernel_rfl) v xT w
theorem ta3 (v : Value) (xT : TypeId) (w : World) : (Instr.typeAssert (.iface 113 v) xT 171 true).run Tryz.prog w = .ok (.tuple #[.nilIface, .bool false]) w := run_typeAssert_lacksB Tryz.underlying171 (by kernel_rfl) (by kernel_rfl) v xT w
theorem ta4 (v : Value) (xT : TypeId) (w : World) : (Instr.typeAssert (.iface 113 v) xT 166 true).run Tryz.prog w = .ok (.tuple #[.nilIface, .bool false]) w := run_typeAssert_lacksB Tryz.underlying166 (by kernel_rfl) (by kernel_rfl) v xT w
theorem ta5 (v : Value) (xT : TypeId) (w : World) : (Instr.typeAssert (.iface 113 v) xT 168 true).run Tryz.prog w = .ok (.tuple #[.nilIface, .bool false]) w := run_typeAssert_lacksB Tryz.underlying168 (by kernel_rfl) (by kernel_rfl) v xT w
theorem isUnw (e : Addr) (w : World) : (Go.method 351 110 (.pointer (some e)) "Unwrap").run Tryz.prog w = .ok (172, .pointer (some e)) w := by kernel_rfl

set_option maxRecDepth 100000 in
set_option maxHeartbeats 1000000 in
theorem errIs_any (e : Addr) (k n : Int) (w : World) (hc : w.cell? e = some (.int .i64 n)) (_hk : 0 ≤ k) (_hn : k ≤ 9) :
    Calls Tryz.prog 56 #[.iface 110 (.pointer (some e)), .iface 113 (.int .i64 k)] w fun ev w' => ev = .returned (.bool (n == k)) ∧ w' = w := by
  have h10 := @run_callFunc_extern Tryz.prog 78 _ ReflectliteType.typeOf Tryz.func78 (by kernel_rfl) (by kernel_rfl) (by kernel_rfl) (by kernel_rfl)
  have tO := isTypeOf
  have mC := isCompM
  have cO := isComp
  have q1 := isEql1
  have q2 := isEql2
  have t1 := ta1
  have t2 := ta2
  have t3 := ta3
  have t4 := ta4
  have t5 := ta5
  have uW := isUnw
  cases hnk : (n == k)
  all_goals
    go_enter Tryz.func56, Tryz.ntmps56
    go_wp2
    refine wp_loop_rounds 2 ?_
    rw [rounds_succ]
    go_wp2
    rw [rounds_succ]
    go_wp2
    go_ret
    exact ⟨rfl, rfl⟩
end Go.Proofs.YtjhlijobdihplaaGreatDoor
namespace Go.Proofs.YtjhlijobdihplaaGreatDoor
open Go.RowKit

set_option maxRecDepth 100000 in
set_option maxHeartbeats 1000000 in
theorem parts_nil (w : World) :
    Calls Tryz.prog 32 #[.nilIface] w fun ev w' => ev = .returned (.agg #[.int .i64 0, .string ⟨#[]⟩]) ∧ Below w.heap.size w w' := by
  go_enter Tryz.func32, Tryz.ntmps32
  go_wp2
  exact bodyPost_ret (v := .agg #[.int .i64 0, .string ⟨#[]⟩]) (by simp [results, Tryz.results32, go_sem]) rfl ⟨rfl, (Below.refl _ _).alloc (Nat.le_refl _) _⟩

theorem errAs_w (e : Addr) (b : Nat) (old : Value) (w : World) (hg : w.cell? ⟨0, 0, none⟩ = some (.iface 159 (.agg #[.pointer (some ⟨5, 74, none⟩)]))) (ht0 : w.cell? ⟨b, 0, none⟩ = some old) (hf0 : w.frozen? ⟨b, 0, none⟩ = false) (hlt : b < w.heap.size) :
    Calls Tryz.prog 55 #[.iface 110 (.pointer (some e)), .iface 112 (.pointer (some ⟨b, 0, none⟩))] w fun ev w' => ev = .returned (.bool true) ∧
      w'.cell? ⟨b, 0, none⟩ = some (.pointer (some e)) ∧ w'.frozen? ⟨b, 0, none⟩ = false ∧ w.heap.size ≤ w'.heap.size ∧ (∀ k, k < w.heap.size → k ≠ b → w'.heap[k]? = w.heap[k]?) ∧ w'.os = w.os ∧ w'.tape = w.tape ∧ w'.output = w.output := by
  refine (errAs_hit e ⟨b, 0, none⟩ old w hg ht0 hf0).mono ?_
  rintro ev w' ⟨rfl, rfl⟩
  refine ⟨rfl, ?_, ?_, ?_, ?_, rfl, rfl, rfl⟩
  · refine World.cell?_setCell_same' _ _ _ ?_
    rw [World.cell?_alloc_lt _ _ ⟨b, 0, none⟩ (by simp; omega), World.cell?_alloc_lt _ _ ⟨b, 0, none⟩ (by simp; omega), World.cell?_alloc_lt _ _ ⟨b, 0, none⟩ (by simp; omega), World.cell?_alloc_lt _ _ ⟨b, 0, none⟩ (by simpa using hlt), ht0]
    rfl
  · rw [World.frozen?_setCell, World.frozen?_alloc_old _ _ ⟨b, 0, none⟩ (by simp; omega), World.frozen?_alloc_old _ _ ⟨b, 0, none⟩ (by simp; omega), World.frozen?_alloc_old _ _ ⟨b, 0, none⟩ (by simp; omega), World.frozen?_alloc_old _ _ ⟨b, 0, none⟩ (by simp; omega)]
    exact hf0
  · simp [World.setCell]; omega
  · intro k hk hne
    rw [Below.heap_setCell _ _ _ _ hne, Below.heap_alloc _ _ _ (by simp; omega), Below.heap_alloc _ _ _ (by simp; omega), Below.heap_alloc _ _ _ (by simp; omega), Below.heap_alloc _ _ _ hk]

set_option maxRecDepth 100000 in
set_option maxHeartbeats 2000000 in
theorem parts_hit (g o : Nat) (n : Int) (s : ByteArray) (w : World) (hg : w.cell? ⟨0, 0, none⟩ = some (.iface 159 (.agg #[.pointer (some ⟨5, 74, none⟩)])))
    (h1 : 1 ≤ n) (h5 : n ≤ 5) (hc : w.cell? ⟨g, o, none⟩ = some (.int .i64 n)) (hs : w.cell? ⟨g, o + 1, none⟩ = some (.string s)) :
    Calls Tryz.prog 32 #[.iface 110 (.pointer (some ⟨g, o, none⟩))] w fun ev w' => ev = .returned (.agg #[.int .i64 n, .string s]) ∧ Below w.heap.size w w' := by
  have hlt : 0 < w.heap.size := by
    rcases Nat.eq_zero_or_pos w.heap.size with h0 | h
    · simp [World.cell?, h0] at hg
    · exact h
  have hglt : g < w.heap.size := by
    rcases Nat.lt_or_ge g w.heap.size with h | h
    · exact h
    · simp [World.cell?, Array.getElem?_eq_none h] at hc
  have n0 : (n == 0) = false := by simp; omega
  have hA := errAs_w ⟨g, o, none⟩ (w.heap.size + 1) (.pointer none) ((w.alloc (.cells #[.int .i64 0, .string ⟨#[]⟩] 47)).alloc (.cells #[.pointer none] 110))
    (by rw [World.cell?_alloc_lt _ _ ⟨0, 0, none⟩ (by simp), World.cell?_alloc_lt _ _ ⟨0, 0, none⟩ hlt]; exact hg) (by simp) (by simp) (by simp)
  go_enter Tryz.func32, Tryz.ntmps32
  go_wp2_with fail
  refine hA.mono ?_
  clear hA
  rintro ev W ⟨rfl, hF, hFf, hsz, hbl, hos, htp, hou⟩
  have hcW : W.cell? ⟨g, o, none⟩ = some (.int .i64 n) := by
    rw [World.cell?_of_block (w := (w.alloc (.cells #[.int .i64 0, .string ⟨#[]⟩] 47)).alloc (.cells #[.pointer none] 110)) (a := ⟨g, o, none⟩) (hbl g (by simp; omega) (by omega)), World.cell?_alloc_lt _ _ ⟨g, o, none⟩ (by simp; omega), World.cell?_alloc_lt _ _ ⟨g, o, none⟩ hglt]; exact hc
  have hsW : W.cell? ⟨g, o + 1, none⟩ = some (.string s) := by
    rw [World.cell?_of_block (w := (w.alloc (.cells #[.int .i64 0, .string ⟨#[]⟩] 47)).alloc (.cells #[.pointer none] 110)) (a := ⟨g, o + 1, none⟩) (hbl g (by simp; omega) (by omega)), World.cell?_alloc_lt _ _ ⟨g, o + 1, none⟩ (by simp; omega), World.cell?_alloc_lt _ _ ⟨g, o + 1, none⟩ hglt]; exact hs
  have hr0 : W.cell? ⟨w.heap.size, 0, none⟩ = some (.int .i64 0) := by
    rw [World.cell?_of_block (w := (w.alloc (.cells #[.int .i64 0, .string ⟨#[]⟩] 47)).alloc (.cells #[.pointer none] 110)) (a := ⟨w.heap.size, 0, none⟩) (hbl w.heap.size (by simp; omega) (by omega))]; simp
  have hr1 : W.cell? ⟨w.heap.size, 1, none⟩ = some (.string ⟨#[]⟩) := by
    rw [World.cell?_of_block (w := (w.alloc (.cells #[.int .i64 0, .string ⟨#[]⟩] 47)).alloc (.cells #[.pointer none] 110)) (a := ⟨w.heap.size, 1, none⟩) (hbl w.heap.size (by simp; omega) (by omega))]; simp
  have hrf : ∀ j, W.frozen? ⟨w.heap.size, j, none⟩ = false := by
    intro j
    rw [World.frozen?_of_block (w := (w.alloc (.cells #[.int .i64 0, .string ⟨#[]⟩] 47)).alloc (.cells #[.pointer none] 110)) (a := ⟨w.heap.size, j, none⟩) (hbl w.heap.size (by simp; omega) (by omega))]
    simp
  have hB : Below w.heap.size w W := by
    have h0 : Below w.heap.size w ((w.alloc (.cells #[.int .i64 0, .string ⟨#[]⟩] 47)).alloc (.cells #[.pointer none] 110)) := ((Below.refl _ w).alloc (Nat.le_refl _) _).alloc (by simp) _
    exact h0.trans ⟨hos, htp, hou, hsz, fun k hk => hbl k (by simp; omega) (by omega)⟩
  have hWs : w.heap.size < W.heap.size := by simp at hsz; omega
  clear hbl hos htp hou hsz hg hc hs
  have hWe : Hid (Below w.heap.size w W) := hB
  clear hB
  go_wp2_with fail
  go_loopg [4] 6 (fun q i wr => ∃ j : Nat, q + j = 6 ∧ i = .int .i64 j ∧ ∃ m, wr = W.drewN m)
  case atStart => exact ⟨0, by omega, rfl, 0, rfl⟩
  case round =>
    obtain ⟨j, hq, rfl, m, rfl⟩ := hrel
    by_cases hj : j ≤ 5
    · cases hjn : (n == (j : Int))
      all_goals
        have hjn2 : ((j : Int) == n) = (n == (j : Int)) := by
          rw [Bool.eq_iff_iff]; simp only [beq_iff_eq]; exact eq_comm
        rw [hjn] at hjn2
        go_wp2_with fail
        go_quiet ((go_at_call 56; go_must (refine (errIs_any ⟨g, o, none⟩ j n _ (by exact hcW) (by omega) (by omega)).mono ?_; rintro e w9 ⟨h1, h2⟩; exact ⟨h1, _, h2⟩)))
        go_wp2_with fail
        go_roundg (gk - 1)
        case measure => omega
        case rel => exact ⟨j + 1, by omega, by go_num, _, rfl⟩
    · go_wp2_with fail
      go_region
      all_goals
        go_wp2_with fail
        exact bodyPost_ret (v := .agg #[.int .i64 n, .string s]) (by simp [results, Tryz.results32, go_sem, hr0, hr1]) rfl
          ⟨rfl, ((below_drewN hWe.out _).setCell (p := ⟨w.heap.size, 0, none⟩) (Nat.le_refl _) _).setCell (p := ⟨w.heap.size, 1, none⟩) (Nat.le_refl _) _⟩
end Go.Proofs.YtjhlijobdihplaaGreatDoor
