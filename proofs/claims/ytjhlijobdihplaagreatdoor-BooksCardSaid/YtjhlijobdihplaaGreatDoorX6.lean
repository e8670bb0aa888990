import Derived.Test.YtjhlijobdihplaaGreatDoorX3
import Derived.Test.YtjhlijobdihplaaGreatDoorM18
namespace Go.Proofs.YtjhlijobdihplaaGreatDoor
open Go.RowKit Go.Maps Go.Shelf

set_option maxRecDepth 100000 in
set_option maxHeartbeats 2000000 in
theorem asks_regs (lw pw g i N cap ob : Nat) (id : Int) (l : List Reg) (ba : Option Addr) (bc : Nat) (o : OpS) (w : World) (hA : LAt w lw pw g i N cap ob id l ba bc) (hi : i < N) (_hN : N ≤ 5000) (hk : o.kind = 6) (hl : l.length ≤ 9000)
    (hQ : ∀ W, Below w.heap.size w W → Calls Tryz.prog 49 #[.pointer (some ⟨pw, 0, none⟩), .int .i64 i] W
      fun e w' => ∃ v, e = .returned (.tuple #[v, .bool true]) ∧ w'.ownsRow 0 99 5 v l.length (rowCells l) ∧ Below W.heap.size W w') :
    Calls Tryz.prog 9 #[.pointer (some ⟨lw, 0, none⟩), o.value, .int .i64 i] w
      fun e w' => e = .returned (.bool true) ∧ Below w.heap.size w w' := by
  obtain ⟨kind, oa, ob', oc, s, t, u⟩ := o
  try dsimp only at hk
  subst hk
  unfold OpS.value
  have HT : Hid (∀ W, Below w.heap.size w W → Calls Tryz.prog 23 #[.pointer (some ⟨lw, 0, none⟩), .int .i64 i] W
      fun e w' => ∃ v, e = .returned (.tuple #[v, .bool true]) ∧ Bk 57 w' v l ∧ Below W.heap.size W w') := fun W hb =>
    told_law lw pw i l W (below_keep hb (lt_of_cell hA.x) hA.x) hl (fun W' hb' => hQ W' (hb.trans (hb'.mono hb.size)))
  have HA : Hid (LAt w lw pw g i N cap ob id l ba bc) := hA
  obtain ⟨b1, b2, b3, b4, b5, _, _⟩ := hA
  have l1 := lt_of_cell b1
  have l2 := lt_of_cell b3
  have l3 := lt_of_cell b4
  clear hQ
  go_enter Tryz.func9, Tryz.ntmps9
  go_wp2_with fail
  have hbX : Below w.heap.size w (w.alloc (.cells #[.int .i64 6, .int .i64 oa, .int .i64 ob', .int .i64 oc, .string s, .string t, .string u] 35)) := (Below.refl _ _).alloc (Nat.le_refl _) _
  refine (HT.out _ hbX).mono ?_
  clear HT
  rintro e w1 ⟨rv, rfl, hbk1, hb1⟩
  obtain ⟨ra, rc, rfl⟩ := ownsRow_shape hbk1
  have hbw : Below w.heap.size w w1 := hbX.trans (hb1.mono (by simp))
  have a5 := below_keep hbw l3 b5
  have hsb := fun k => sameBook_any l ra ba rc bc (w1.drewN k) (show Bk 57 (w1.drewN k) _ l from hbk1) (show Bk 57 (w1.drewN k) _ l from HA.out.bk.below (Nat.le_refl _) (below_drewN hbw k)) hl
  have HB : Hid (Below w.heap.size w w1) := hbw
  clear HA hbX hb1 hbk1 hbw b1 b2 b3 b4 b5
  go_wp2_with (go_at_call 24; refine (hsb 0).mono ?_; clear hsb; rintro e w3 ⟨rfl, nn, rfl⟩)
  go_ret
  exact ⟨rfl, below_drewN HB.out nn⟩

set_option maxRecDepth 100000 in
set_option maxHeartbeats 2000000 in
theorem asks_digest (lw pw g i N cap ob : Nat) (id : Int) (l : List Reg) (ba : Option Addr) (bc : Nat) (o : OpS) (w : World) (hA : LAt w lw pw g i N cap ob id l ba bc) (hi : i < N) (_hN : N ≤ 5000) (hk : o.kind = 7) (hl : l.length ≤ 9000) (hs : o.s.size ≤ 5000)
    (hZ : ∀ i, i < l.length → (reg l i).n.size ≤ 5000 ∧ (reg l i).f.size ≤ 5000 ∧ (reg l i).v.size ≤ 5000)
    (hR : ∀ i, i < l.length → -9223372036854775808 ≤ (reg l i).c ∧ (reg l i).c < 9223372036854775808 ∧ -9223372036854775808 ≤ (reg l i).r ∧ (reg l i).r < 9223372036854775808)
    (hD : ∀ W, Below w.heap.size w W → Calls Tryz.prog 25 #[.pointer (some ⟨pw, 0, none⟩), .int .i64 i, .string o.s] W
      fun e w' => e = .returned (.string (hashL (linesL l o.s))) ∧ Below W.heap.size W w') :
    Calls Tryz.prog 9 #[.pointer (some ⟨lw, 0, none⟩), o.value, .int .i64 i] w
      fun e w' => e = .returned (.bool true) ∧ Below w.heap.size w w' := by
  obtain ⟨kind, oa, ob', oc, s, t, u⟩ := o
  try dsimp only at hk hs hD
  subst hk
  unfold OpS.value
  have HL : Hid (∀ W, Below w.heap.size w W → Calls Tryz.prog 26 #[.slice ba l.length bc, .string s] W
      fun e w' => e = .returned (.string (linesL l s)) ∧ Below W.heap.size W w') := fun W hb =>
    lines_any l s ba bc W (hA.bk.below (Nat.le_refl _) hb) hl (Nat.le_trans hs (by unfold maxLen; decide)) hZ hR
  have HH : Hid (∀ W, Calls Tryz.prog 27 #[.string (linesL l s)] W
      fun e w' => e = .returned (.string (hashL (linesL l s))) ∧ Below W.heap.size W w') := fun W => hash_any (linesL l s) W (by
    have := linesL_size l s hZ
    omega)
  have HD : Hid (∀ W, Below w.heap.size w W → Calls Tryz.prog 25 #[.pointer (some ⟨pw, 0, none⟩), .int .i64 i, .string s] W
      fun e w' => e = .returned (.string (hashL (linesL l s))) ∧ Below W.heap.size W w') := hD
  obtain ⟨b1, b2, b3, b4, b5, _, _⟩ := hA
  have l1 := lt_of_cell b1
  have l2 := lt_of_cell b3
  have l3 := lt_of_cell b4
  clear hD hZ hR
  go_enter Tryz.func9, Tryz.ntmps9
  go_wp2_with fail
  go_cut [19] (fun v wd => v = .string (hashL (linesL l s)) ∧ wd.cell? ⟨w.heap.size, 4, none⟩ = some (.string s) ∧ Below w.heap.size w wd ∧ w.heap.size < wd.heap.size)
  case first =>
    have hbX : Below w.heap.size w (w.alloc (.cells #[.int .i64 7, .int .i64 oa, .int .i64 ob', .int .i64 oc, .string s, .string t, .string u] 35)).drew := ((Below.refl _ _).alloc (Nat.le_refl _) _).drew
    have hD := HD.out _ hbX
    have x4 : (w.alloc (.cells #[.int .i64 7, .int .i64 oa, .int .i64 ob', .int .i64 oc, .string s, .string t, .string u] 35)).drew.cell? ⟨w.heap.size, 4, none⟩ = some (.string s) := by simp
    have hsX : w.heap.size < (w.alloc (.cells #[.int .i64 7, .int .i64 oa, .int .i64 ob', .int .i64 oc, .string s, .string t, .string u] 35)).drew.heap.size := by simp
    have HX : Hid (Below w.heap.size w (w.alloc (.cells #[.int .i64 7, .int .i64 oa, .int .i64 ob', .int .i64 oc, .string s, .string t, .string u] 35)).drew ∧ w.heap.size < (w.alloc (.cells #[.int .i64 7, .int .i64 oa, .int .i64 ob', .int .i64 oc, .string s, .string t, .string u] 35)).drew.heap.size) := ⟨hbX, hsX⟩
    clear hbX hsX HD HL HH
    go_region_with (go_at_call 25; refine hD.mono ?_; clear hD; rintro e w1 ⟨rfl, hb1⟩)
    all_goals go_wp2
    all_goals go_meet
    all_goals case rel => exact ⟨rfl, below_keep hb1 HX.out.2 x4, HX.out.1.trans (hb1.mono (Nat.le_of_lt HX.out.2)), Nat.lt_of_lt_of_le HX.out.2 hb1.size⟩
  case rest =>
    obtain ⟨rfl, x4, hbw, hsz⟩ := hcut
    have a5 := below_keep hbw l3 b5
    clear HD b1 b2 b3 b4 b5
    have hL := HL.out wc.drew hbw.drew
    have HB : Hid (Below w.heap.size w wc) := hbw
    clear HL hbw
    generalize linesL l s = L at *
    go_wp2_with fail
    go_cut [20] (fun v wd => v = .string L ∧ Below w.heap.size w wd)
    case first =>
      clear HH
      go_region_with (go_at_call 26; refine hL.mono ?_; clear hL; rintro e w1 ⟨rfl, hb1⟩)
      all_goals go_wp2
      all_goals go_meet
      all_goals case rel => exact ⟨rfl, HB.out.drew.trans (hb1.mono HB.out.size)⟩
    case rest =>
      obtain ⟨rfl, hbw⟩ := hcut
      have hH := HH.out wc
      have HB2 : Hid (Below w.heap.size w wc) := hbw
      clear HB hbw HH x4 a5
      go_wp2_with (go_at_call 27; refine hH.mono ?_; clear hH; rintro e w3 ⟨rfl, hb3⟩)
      go_ret
      exact ⟨by simp, HB2.out.trans (hb3.mono HB2.out.size)⟩
end Go.Proofs.YtjhlijobdihplaaGreatDoor
