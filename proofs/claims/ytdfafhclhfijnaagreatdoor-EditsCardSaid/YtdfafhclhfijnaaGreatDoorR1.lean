import Derived.Test.YtdfafhclhfijnaaGreatDoorProg
import Derived.WalkKit
import Derived.WalkSpells
import Derived.WalkLawsBesides
import Derived.Deep.RegionWith
import Derived.Test.YtdfafhclhfijnaaGreatDoorPl
namespace Go.Proofs.YtdfafhclhfijnaaGreatDoor
open Go.RowKit
set_option maxHeartbeats 400000 in
theorem sameKey_any (a b : Reg) (w : World) :
    Calls Tryz.prog 50 #[.agg #[.string a.n, .string a.f, .int .i64 a.c, .int .i64 a.r, .string a.v], .agg #[.string b.n, .string b.f, .int .i64 b.c, .int .i64 b.r, .string b.v]] w fun e w' => e = .returned (.bool (sameKeyB a b)) ∧ Below w.heap.size w w' := by
  go_enter Tryz.func50, Tryz.ntmps50
  go_wp2
  all_goals
    go_ret
    exact ⟨by simp [sameKeyB, eqS, *], ((Below.refl _ _).alloc (Nat.le_refl _) _).alloc (by simp) _⟩

set_option maxHeartbeats 400000 in
theorem ahead_any (a b : Reg) (w : World) :
    Calls Tryz.prog 51 #[.agg #[.string a.n, .string a.f, .int .i64 a.c, .int .i64 a.r, .string a.v], .agg #[.string b.n, .string b.f, .int .i64 b.c, .int .i64 b.r, .string b.v]] w fun e w' => e = .returned (.bool (aheadB a b)) ∧ Below w.heap.size w w' := by
  cases h1 : (a.n.toList == b.n.toList)
  all_goals
    go_enter Tryz.func51, Tryz.ntmps51
    go_wp2
    go_ret
    exact ⟨by simp [aheadB, eqS, ltS, h1], ((Below.refl _ _).alloc (Nat.le_refl _) _).alloc (by simp) _⟩

set_option maxHeartbeats 400000 in
theorem wins_any (a b : Reg) (w : World) :
    Calls Tryz.prog 52 #[.agg #[.string a.n, .string a.f, .int .i64 a.c, .int .i64 a.r, .string a.v], .agg #[.string b.n, .string b.f, .int .i64 b.c, .int .i64 b.r, .string b.v]] w fun e w' => e = .returned (.bool (winsB a b)) ∧ Below w.heap.size w w' := by
  cases h1 : (a.c == b.c) <;> cases h2 : (a.r == b.r)
  all_goals
    go_enter Tryz.func52, Tryz.ntmps52
    go_wp2
    go_ret
    exact ⟨by simp_all [winsB, eqS, ltS], ((Below.refl _ _).alloc (Nat.le_refl _) _).alloc (by simp) _⟩

set_option maxHeartbeats 400000 in
theorem clock_any (l : List Reg) (a : Option Addr) (cap : Nat) (w : World) (hB : Bk 57 w (.slice a l.length cap) l) (hl : l.length ≤ 9000) :
    Calls Tryz.prog 28 #[.slice a l.length cap] w fun e w' => e = .returned (.int .i64 (clockL l)) ∧ w' = w := by
  go_enter Tryz.func28, Tryz.ntmps28
  go_wp2
  go_loop [3, 4] (fun m i => ∃ k : Nat, k ≤ l.length ∧ i = .int .i64 k ∧ m = .int .i64 (clockL (l.take k))) (fun _ i => l.length - (intOf i).toNat)
  case atStart => exact ⟨0, Nat.zero_le _, rfl, rfl⟩
  case round =>
    obtain ⟨k, hk, rfl, rfl⟩ := hrel
    by_cases hlt : k < l.length
    · obtain ⟨g, rfl⟩ := hB.shape.2 (by intro h; simp [h] at hlt)
      obtain ⟨c0, c1, c2, c3, c4⟩ := hB.five k hlt
      by_cases hc : clockL (l.take k) < (reg l k).c
      · go_wp2
        go_round
        case rel => exact ⟨k + 1, by omega, by go_num, val_int (clockL_yes hlt hc)⟩
        case measure => simp [intOf]; omega
      · go_wp2
        go_round
        case rel => exact ⟨k + 1, by omega, by go_num, val_int (clockL_no hlt hc)⟩
        case measure => simp [intOf]; omega
    · go_wp2
      go_ret
      exact ⟨ret_int (by rw [List.take_of_length_le (by omega)]), rfl⟩

set_option maxHeartbeats 400000 in
theorem find_any (l : List Reg) (x : Reg) (a : Option Addr) (cap : Nat) (w : World) (hB : Bk 57 w (.slice a l.length cap) l) (hl : l.length ≤ 9000) :
    Calls Tryz.prog 44 #[.slice a l.length cap, .agg #[.string x.n, .string x.f, .int .i64 x.c, .int .i64 x.r, .string x.v]] w fun e w' => e = .returned (.int .i64 (findI l x)) ∧ Below w.heap.size w w' := by
  go_enter Tryz.func44, Tryz.ntmps44
  go_wp2
  go_loopw [5] (fun i wr => ∃ k : Nat, k ≤ l.length ∧ i = .int .i64 k ∧ (∀ i, i < k → sameKeyB (reg l i) x = false) ∧ Below (w.heap.size + 1) (w.alloc (.cells #[.string x.n, .string x.f, .int .i64 x.c, .int .i64 x.r, .string x.v] 57)) wr) (fun i _ => l.length - (intOf i).toNat)
  case atStart => exact ⟨0, Nat.zero_le _, rfl, fun i hi => by omega, Below.refl _ _⟩
  case round =>
    obtain ⟨k, hk, rfl, hn, hb⟩ := hrel
    by_cases hlt : k < l.length
    · obtain ⟨g, rfl⟩ := hB.shape.2 (by intro h; simp [h] at hlt)
      obtain ⟨c0, c1, c2, c3, c4⟩ := (hB.below (Nat.le_refl _) (below_box hb)).five k hlt
      obtain ⟨x0, x1, x2, x3, x4⟩ := box_five hb
      have hsz := hb.size
      rw [World.size_alloc] at hsz
      clear hB
      cases hs : sameKeyB (reg l k) x
      · go_wp2
        go_region_with (go_at_call 50; refine (sameKey_any (reg l k) x _).mono ?_; rintro e w' ⟨rfl, hb1⟩)
        all_goals
          have hb2 := hb.trans (Below.mono (B' := w.heap.size + 1) (Below.trans (b := wr.drew) ⟨rfl, rfl, rfl, Nat.le_refl _, fun _ _ => rfl⟩ hb1) (by first | exact hsz | (simp; exact hsz)))
          clear hb1 c0 c1 c2 c3 c4 x0 x1 x2 x3 x4
          go_wp2
          go_roundw
          case rel => exact ⟨k + 1, by omega, by go_num, fun i hi => (Nat.lt_succ_iff_lt_or_eq.1 hi).elim (hn i) (fun e => e ▸ hs), hb2⟩
          case measure => simp [intOf]; omega
      · go_wp2
        go_region_with (go_at_call 50; refine (sameKey_any (reg l k) x _).mono ?_; rintro e w' ⟨rfl, hb1⟩)
        all_goals
          have hb2 := hb.trans (Below.mono (B' := w.heap.size + 1) (Below.trans (b := wr.drew) ⟨rfl, rfl, rfl, Nat.le_refl _, fun _ _ => rfl⟩ hb1) (by first | exact hsz | (simp; exact hsz)))
          clear hb1 c0 c1 c2 c3 c4 x0 x1 x2 x3 x4
          go_wp2
          go_ret
          exact ⟨ret_int (findI_yes hlt hn hs).symm, below_box hb2⟩
    · go_wp2
      go_ret
      exact ⟨ret_int (findI_no (fun i hi => hn i (by omega))).symm, below_box hb⟩
end Go.Proofs.YtdfafhclhfijnaaGreatDoor
