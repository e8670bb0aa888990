import Derived.Test.YtdfafhclhfijnaaGreatDoorK4
namespace Go.Proofs.YtdfafhclhfijnaaGreatDoor
open Go.RowKit Go.Maps Go.Shelf

set_option maxRecDepth 100000 in
set_option maxHeartbeats 4000000 in
theorem step_asks (base lw pw N n i : Nat) (rs : Nat → RD) (os : Nat → Nat) (o : OpS) (w : World) (hP : PSt base w pw N rs n) (hL : LSt base w lw pw N os (fun j => (rs j).id) (fun j => (rs j).l)) (h0 : 0 < N) (hN : N ≤ 5000) (hn : n ≤ 5000) (hk : o.kind = 4 ∨ o.kind = 5) (hs : o.s.size ≤ 5000) (ha : -9223372036854775808 ≤ o.a) (ha2 : o.a < 9223372036854775808) (hpi : pickI o.a N = (i : Int)) (hi : i < N) :
    Calls Tryz.prog 6 #[.pointer (some ⟨lw, 0, none⟩), o.value] w
      fun e w' => e = .returned (.bool true) ∧ Below w.heap.size w w' := by
  obtain ⟨kind, oa, ob, oc, s, t, u⟩ := o
  try dsimp only at hk hs ha ha2 hpi
  have hk1 : (kind == 1) = false := by rcases hk with rfl | rfl <;> rfl
  have hk2 : (kind == 2) = false := by rcases hk with rfl | rfl <;> rfl
  have hk3 : (kind == 3) = false := by rcases hk with rfl | rfl <;> rfl
  have hk8 : (kind == 8) = false := by rcases hk with rfl | rfl <;> rfl
  have hk9 : (kind == 9) = false := by rcases hk with rfl | rfl <;> rfl
  have hk10 : (kind == 10) = false := by rcases hk with rfl | rfl <;> rfl
  unfold OpS.value
  obtain ⟨g, cap, ba, bc, hA⟩ := hL.at hi
  try dsimp only at hA
  have hpk := fun W => pick_any oa N W ha ha2 (by omega) (by omega)
  rw [hpi] at hpk
  obtain ⟨b1, b2, b3, b4, b5, _, _⟩ := hA
  have l1 := lt_of_cell b1
  have l2 := lt_of_cell b3
  have l3 := lt_of_cell b4
  have HPL : Hid (PSt base w pw N rs n ∧ LSt base w lw pw N os (fun j => (rs j).id) (fun j => (rs j).l)) := ⟨hP, hL⟩
  have hP0 := hP.hb
  clear hP hL
  go_enter Tryz.func6, Tryz.ntmps6
  go_wp2
  go_cut [6] (fun v wd => v = .int .i64 i ∧ opBlk wd w.heap.size ⟨kind, oa, ob, oc, s, t, u⟩ ∧ Below w.heap.size w wd)
  case first =>
    have hop : opBlk (w.alloc (.cells #[.int .i64 kind, .int .i64 oa, .int .i64 ob, .int .i64 oc, .string s, .string t, .string u] 35)).drew w.heap.size ⟨kind, oa, ob, oc, s, t, u⟩ := opBlk_new w ⟨kind, oa, ob, oc, s, t, u⟩
    have hbX : Below w.heap.size w (w.alloc (.cells #[.int .i64 kind, .int .i64 oa, .int .i64 ob, .int .i64 oc, .string s, .string t, .string u] 35)).drew := ((Below.refl _ _).alloc (Nat.le_refl _) _).drew
    have HX : Hid (opBlk (w.alloc (.cells #[.int .i64 kind, .int .i64 oa, .int .i64 ob, .int .i64 oc, .string s, .string t, .string u] 35)).drew w.heap.size ⟨kind, oa, ob, oc, s, t, u⟩ ∧ Below w.heap.size w (w.alloc (.cells #[.int .i64 kind, .int .i64 oa, .int .i64 ob, .int .i64 oc, .string s, .string t, .string u] 35)).drew) := ⟨hop, hbX⟩
    clear hop hbX HPL
    go_region_with (go_at_call 9; refine (hpk _).mono ?_; rintro e w1 ⟨rfl, rfl⟩)
    all_goals go_wp2
    all_goals go_meet
    all_goals case rel => exact ⟨rfl, HX.out.1, HX.out.2⟩
  case rest =>
    obtain ⟨rfl, hop, hbw⟩ := hcut
    obtain ⟨o0, o1, o4, o5, o6⟩ := hop.at
    have hA : ∀ W, Below w.heap.size w W → Calls Tryz.prog 7 #[.pointer (some ⟨lw, 0, none⟩), .agg #[.int .i64 kind, .int .i64 oa, .int .i64 ob, .int .i64 oc, .string s, .string t, .string u], .int .i64 i] W
        fun e w' => e = .returned (.bool true) ∧ Below W.heap.size W w' := fun W hb => by
      have p := HPL.out.1.below (Nat.le_refl n) hb
      have l := HPL.out.2.below hb
      rcases hk with hk | hk
      · exact asks_fields base lw pw N n i rs os ⟨kind, oa, ob, oc, s, t, u⟩ W p l hi hN hn hk hs
      · exact asks_names base lw pw N n i rs os ⟨kind, oa, ob, oc, s, t, u⟩ W p l hi hN hn hk hs
    have a1 := below_keep hbw l1 b1
    have a2 := below_keep hbw l1 b2
    have a3 := below_keep hbw l2 b3
    have k1 := lt_of_cell a1
    have k2 := lt_of_cell a3
    have k4 := lt_of_cell o0
    have o2 : wc.cell? ⟨w.heap.size, 2, none⟩ = some (.int .i64 ob) := by unfold opBlk at hop; simp [World.cell?, hop]
    have o3 : wc.cell? ⟨w.heap.size, 3, none⟩ = some (.int .i64 oc) := by unfold opBlk at hop; simp [World.cell?, hop]
    try dsimp only at o0 o1 o4 o5 o6
    clear HPL hpk hop b1 b2 b3 b4 b5
    have HA : Hid (∀ W, Below w.heap.size w W → Calls Tryz.prog 7 #[.pointer (some ⟨lw, 0, none⟩), .agg #[.int .i64 kind, .int .i64 oa, .int .i64 ob, .int .i64 oc, .string s, .string t, .string u], .int .i64 i] W
        fun e w' => e = .returned (.bool true) ∧ Below W.heap.size W w') := hA
    have HB : Hid (Below w.heap.size w wc) := hbw
    clear hA hbw hk
    go_wp2_with (go_at_call 7; refine (HA.out _ HB.out).mono ?_; clear HA; rintro e w5 ⟨rfl, hb5⟩)
    all_goals go_wp2
    all_goals go_ret
    all_goals exact ⟨rfl, HB.out.trans (hb5.mono (Nat.le_of_lt k4))⟩
end Go.Proofs.YtdfafhclhfijnaaGreatDoor
