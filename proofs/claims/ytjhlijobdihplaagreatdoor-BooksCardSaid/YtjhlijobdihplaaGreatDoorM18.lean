import Derived.Test.YtjhlijobdihplaaGreatDoorM11
import Derived.Test.YtjhlijobdihplaaGreatDoorM13
namespace Go.Proofs.YtjhlijobdihplaaGreatDoor
open Go.RowKit

set_option maxRecDepth 100000 in
set_option maxHeartbeats 1000000 in
theorem sameBook_any (l : List Reg) (a b : Option Addr) (ca cb : Nat) (w : World) (hA : Bk 57 w (.slice a l.length ca) l) (hB : Bk 57 w (.slice b l.length cb) l) (hl : l.length ≤ 9000) :
    Calls Tryz.prog 24 #[.slice a l.length ca, .slice b l.length cb] w fun e w' => e = .returned (.bool true) ∧ ∃ n, w' = w.drewN n := by
  go_enter Tryz.func24, Tryz.ntmps24
  go_wp2
  go_loopw [5] (fun i wr => ∃ k : Nat, k ≤ l.length ∧ i = .int .i64 k ∧ ∃ n, wr = w.drewN n) (fun i _ => l.length - (intOf i).toNat)
  case atStart => exact ⟨0, Nat.zero_le _, rfl, 0, rfl⟩
  case round =>
    obtain ⟨k, hk, rfl, n, rfl⟩ := hrel
    by_cases hlt : k < l.length
    · obtain ⟨g, rfl⟩ := hA.shape.2 (by intro h; simp [h] at hlt)
      obtain ⟨g2, rfl⟩ := hB.shape.2 (by intro h; simp [h] at hlt)
      obtain ⟨c0, c1, c2, c3, c4⟩ := hA.five k hlt
      obtain ⟨d0, d1, d2, d3, d4⟩ := hB.five k hlt
      generalize reg l k = y at *
      go_wp2
      go_quiet (fail)
      go_wp2
      go_roundw
      case rel => exact ⟨k + 1, by omega, by go_num, _, rfl⟩
      case measure => simp [intOf]; omega
    · go_wp2
      go_ret
      exact ⟨rfl, n, rfl⟩
end Go.Proofs.YtjhlijobdihplaaGreatDoor
namespace Go.Proofs.YtjhlijobdihplaaGreatDoor
open Go.RowKit Go.Maps Go.Shelf

set_option maxRecDepth 100000 in
set_option maxHeartbeats 2000000 in
/-- told: the registers that plain tells, as the document's -/
theorem told_law (lw pw i : Nat) (l : List Reg) (w : World) (b1 : w.cell? ⟨lw, 0, none⟩ = some (.pointer (some ⟨pw, 0, none⟩))) (hl : l.length ≤ 9000)
    (hQ : ∀ W, Below w.heap.size w W → Calls Tryz.prog 49 #[.pointer (some ⟨pw, 0, none⟩), .int .i64 i] W
      fun e w' => ∃ v, e = .returned (.tuple #[v, .bool true]) ∧ w'.ownsRow 0 99 5 v l.length (rowCells l) ∧ Below W.heap.size W w') :
    Calls Tryz.prog 23 #[.pointer (some ⟨lw, 0, none⟩), .int .i64 i] w
      fun e w' => ∃ v, e = .returned (.tuple #[v, .bool true]) ∧ Bk 57 w' v l ∧ Below w.heap.size w w' := by
  have l1 := lt_of_cell b1
  have HQ : Hid (∀ W, Below w.heap.size w W → Calls Tryz.prog 49 #[.pointer (some ⟨pw, 0, none⟩), .int .i64 i] W
      fun e w' => ∃ v, e = .returned (.tuple #[v, .bool true]) ∧ w'.ownsRow 0 99 5 v l.length (rowCells l) ∧ Below W.heap.size W w') := hQ
  clear hQ
  go_enter Tryz.func23, Tryz.ntmps23
  go_wp2_with fail
  refine (HQ.out w (Below.refl _ _)).mono ?_
  clear HQ
  rintro e w1 ⟨rv, rfl, hrow1, hb1⟩
  obtain ⟨ra, rc, rfl⟩ := ownsRow_shape hrow1
  obtain ⟨i0, hti, hz0, hz1, hz2⟩ := info_parts Tryz.infoReg
  have hbk : Bk 99 w1 (.slice ra l.length rc) l := hrow1
  have HB : Hid (Below w.heap.size w w1) := hb1
  clear hrow1 hb1 b1
  go_wp2_with fail
  go_loopg [8, 9] l.length (fun q o kv wr => ∃ k : Nat, q + k = l.length ∧ kv = .int .i64 k ∧ wr.ownsRow w1.heap.size 57 5 o (l.take k).length (rowCells (l.take k)) ∧ Below w1.heap.size w1 wr)
  case atStart => exact ⟨0, by omega, rfl, World.ownsRow_nil _ _ _ _, Below.refl _ _⟩
  case round =>
    obtain ⟨k, hq, rfl, hrow, hb⟩ := hrel
    by_cases hlt : k < l.length
    · obtain ⟨g5, rfl⟩ := hbk.shape.2 (by intro h; simp [h] at hlt)
      have HT : Hid (l.take (k + 1) = l.take k ++ [reg l k]) := take_reg l k hlt
      have hlen3 : (l.take k).length ≤ 9000 := by
        have h2 : (l.take k).length ≤ k := List.length_take_le _ _
        omega
      generalize l.take k = out at *
      obtain ⟨oa2, ocap, rfl⟩ := ownsRow_shape hrow
      obtain ⟨c0, c1, c2, c3, c4⟩ := (hbk.below (Nat.le_refl _) hb).five k hlt
      have hsz := hb.size
      have lg := lt_of_cell c0
      generalize reg l k = y at *
      have HX : Hid (Below w1.heap.size w1 wr ∧ wr.ownsRow w1.heap.size 57 5 (.slice oa2 out.length ocap) out.length (rowCells out)) := ⟨hb, hrow⟩
      clear hbk
      go_wp2_with (at_builtin; refine wpList_append_own _ rfl _ _ 40 rfl w1.heap.size 57 i0 _ 5 64 Tryz.underlying40 hti hz0 hz1 hz2 rfl (by decide) (.slice oa2 out.length ocap) out.length (rowCells out) rfl ((hrow.alloc _).alloc _) ⟨wr.heap.size + 1, 0, none⟩ 1 1 y.cells rfl rfl (news_at _ y.cells _ _ (by simp)) (cells_one _) (by unfold maxLen; omega) (by omega) (by simp; omega) ?_; intro v' w2 hown' hgrow _)
      have hb4 := ((hb.alloc hsz _).alloc (by simp; omega) _).grown hgrow (by simp; omega) (ownBlock_ge hrow)
      go_roundg (gk - 1)
      case measure => omega
      case rel =>
        refine ⟨k + 1, by omega, by go_num, ?_, hb4⟩
        rw [HT.out]
        exact row_snoc hown'
    · have e : l.take k = l := List.take_of_length_le (by omega)
      rw [e] at hrow
      obtain ⟨oa2, ocap, rfl⟩ := ownsRow_shape hrow
      have HX : Hid (_ ∧ _) := ⟨bk_of hrow, HB.out.trans (hb.mono HB.out.size)⟩
      clear hbk hrow hb HB e
      go_wp2_with fail
      go_ret2
      exact ⟨_, rfl, HX.out.1, HX.out.2⟩
end Go.Proofs.YtjhlijobdihplaaGreatDoor
