import Derived.Test.YtjhlijobdihplaaGreatDoorM12
namespace Go.Proofs.YtjhlijobdihplaaGreatDoor
open Go.RowKit Go.Maps Go.Shelf

/-- what the law finds of replica i -/
structure LAt (w : World) (lw pw g i N cap ob : Nat) (id : Int) (l : List Reg) (ba : Option Addr) (bc : Nat) : Prop where
  x : w.cell? ⟨lw, 0, none⟩ = some (.pointer (some ⟨pw, 0, none⟩))
  ls : w.cell? ⟨lw, 1, none⟩ = some (.slice (some ⟨g, 0, none⟩) N cap)
  ptr : w.cell? ⟨g, i, none⟩ = some (.pointer (some ⟨ob, 0, none⟩))
  oid : w.cell? ⟨ob, 0, none⟩ = some (.int .i64 id)
  obk : w.cell? ⟨ob, 1, none⟩ = some (.slice ba l.length bc)
  bk : Bk 57 w (.slice ba l.length bc) l
  ofr : w.frozen? ⟨ob, 1, none⟩ = false

theorem LSt.at {base : Nat} {w : World} {lw pw N : Nat} {os : Nat → Nat} {ids : Nat → Int} {ls : Nat → List Reg} (h : LSt base w lw pw N os ids ls) {i : Nat} (hi : i < N) : ∃ g cap ba bc, LAt w lw pw g i N cap (os i) (ids i) (ls i) ba bc := by
  obtain ⟨la, lc, a, b⟩ := h.law
  obtain ⟨_, bv, c, d⟩ := h.ones i hi
  obtain ⟨ba, bc, rfl⟩ := ownsRow_shape d
  rcases b.2 with ⟨h0, h1⟩ | ⟨g, cap, cur, q1, q2, q3, q4⟩
  · omega
  · cases q1
    refine ⟨g, lc, ba, bc, ⟨by simp [World.cell?, a], by simp [World.cell?, a], ?_, by simp [World.cell?, c], by simp [World.cell?, c], d, by simp [World.frozen?, c]⟩⟩
    have := b.cellAt i (by omega)
    rw [this, ptrs_get _ hi]

theorem LAt.below {w w' : World} {lw pw g i N cap ob : Nat} {id : Int} {l : List Reg} {ba : Option Addr} {bc : Nat} (h : LAt w lw pw g i N cap ob id l ba bc) (hb : Below w.heap.size w w') : LAt w' lw pw g i N cap ob id l ba bc :=
  ⟨below_keep hb (lt_of_cell h.x) h.x, below_keep hb (lt_of_cell h.ls) h.ls, below_keep hb (lt_of_cell h.ptr) h.ptr, below_keep hb (lt_of_cell h.oid) h.oid, below_keep hb (lt_of_cell h.obk) h.obk, h.bk.below (Nat.le_refl _) hb, below_frozen hb (lt_of_cell h.obk) h.ofr⟩

/-- plain's Fields, at a replica that lies there -/
theorem fieldsQ {base pw N n i : Nat} {rs : Nat → RD} {w : World} (h : PSt base w pw N rs n) (hi : i < N) (hN : N ≤ 5000) (hn : n ≤ 5000) (s : ByteArray) (hs : s.size ≤ 5000) :
    Calls Tryz.prog 18 #[.pointer (some ⟨pw, 0, none⟩), .int .i64 i, .string s] w
      fun e w' => ∃ rv, e = .returned (.tuple #[rv, .bool true]) ∧ w'.ownsRow w.heap.size 9 1 rv (txF (fieldsL (rs i).l s)).length ((txF (fieldsL (rs i).l s)).map Value.string) ∧ Below w.heap.size w w' := by
  obtain ⟨g, cap, ha⟩ := h.at hi (by omega)
  have hr := h.reps i hi
  have hl := hr.len
  exact fieldsP_any pw g i cap N (rs i).p n (rs i).M (rs i).v (rs i).nb (rs i).l s w ha.hw hi ha.hlen ha.hp hr.isMap hr.cv hr.book hr.sorted (Nat.le_trans hs (by unfold maxLen; decide)) (by omega) (by omega)
theorem namesQ {base pw N n i : Nat} {rs : Nat → RD} {w : World} (h : PSt base w pw N rs n) (hi : i < N) (hN : N ≤ 5000) (hn : n ≤ 5000) (s : ByteArray) (hs : s.size ≤ 5000) :
    Calls Tryz.prog 21 #[.pointer (some ⟨pw, 0, none⟩), .int .i64 i, .string s] w
      fun e w' => ∃ rv, e = .returned rv ∧ w'.ownsRow w.heap.size 9 1 rv (namesL (rs i).l s).length ((namesL (rs i).l s).map Value.string) ∧ Below w.heap.size w w' := by
  obtain ⟨g, cap, ha⟩ := h.at hi (by omega)
  have hr := h.reps i hi
  have hl := hr.len
  exact namesP_any pw g i cap N (rs i).p n (rs i).M (rs i).v (rs i).nb (rs i).l s w ha.hw hi ha.hlen ha.hp hr.cv hr.book hr.sorted (Nat.le_trans hs (by unfold maxLen; decide)) (by omega) (by omega)

set_option maxRecDepth 100000 in
set_option maxHeartbeats 2000000 in
theorem asks_names (base lw pw N n i : Nat) (rs : Nat → RD) (os : Nat → Nat) (o : OpS) (w : World) (hP : PSt base w pw N rs n) (hL : LSt base w lw pw N os (fun j => (rs j).id) (fun j => (rs j).l)) (hi : i < N) (hN : N ≤ 5000) (hn : n ≤ 5000) (hk : o.kind = 5) (hs : o.s.size ≤ 5000) :
    Calls Tryz.prog 9 #[.pointer (some ⟨lw, 0, none⟩), o.value, .int .i64 i] w
      fun e w' => e = .returned (.bool true) ∧ Below w.heap.size w w' := by
  obtain ⟨kind, oa, ob, oc, s, t, u⟩ := o
  try dsimp only at hk hs
  subst hk
  unfold OpS.value
  obtain ⟨g, cap, ba, bc, hA⟩ := hL.at hi
  try dsimp only at hA
  have hr := hP.reps i hi
  have hlen := hr.len
  have hnam := hr.names
  obtain ⟨T, hT⟩ : ∃ T, namesL (rs i).l s = T := ⟨_, rfl⟩
  have hTl : T.length ≤ 5000 := by
    rw [← hT]
    have := namesTo_len (rs i).l s (rs i).l []
    simp at this
    exact Nat.le_trans this (by omega)
  have HF : Hid (∀ W, Below w.heap.size w W → Calls Tryz.prog 21 #[.pointer (some ⟨pw, 0, none⟩), .int .i64 i, .string s] W fun e w' => ∃ rv, e = .returned rv ∧ w'.ownsRow W.heap.size 9 1 rv T.length (T.map Value.string) ∧ Below W.heap.size W w') := fun W hb => by
    rw [← hT]; exact namesQ (hP.below (Nat.le_refl _) hb) hi hN hn s hs
  have HRF : Hid (∀ W, Below w.heap.size w W → Calls Tryz.prog 22 #[.slice ba (rs i).l.length bc, .string s] W fun e w' => ∃ v, e = .returned v ∧ w'.ownsRow W.heap.size 9 1 v T.length (T.map Value.string) ∧ Below W.heap.size W w') := fun W hb => by
    rw [← hT]
    exact refNames_any (rs i).l s ba bc W (hA.bk.below (Nat.le_refl _) hb) (by omega) (fun j hj => Nat.le_trans (hnam _ (reg_mem hj)).n (by unfold maxLen; decide)) (Nat.le_trans hs (by unfold maxLen; decide))
  have HA : Hid (LAt w lw pw g i N cap (os i) (rs i).id (rs i).l ba bc) := hA
  obtain ⟨b1, b2, b3, b4, b5, _, _⟩ := hA
  have l1 := lt_of_cell b1
  have l2 := lt_of_cell b3
  have l3 := lt_of_cell b4
  obtain ⟨ln, hln⟩ : ∃ ln, (rs i).l.length = ln := ⟨_, rfl⟩
  clear hP hL hr hT hnam hlen
  go_enter Tryz.func9, Tryz.ntmps9
  go_wp2
  go_cut [14] (fun v wd => ∃ ra rc, v = .slice ra T.length rc ∧ Tx 9 wd (.slice ra T.length rc) T ∧ wd.cell? ⟨w.heap.size, 4, none⟩ = some (.string s) ∧ Below w.heap.size w wd ∧ w.heap.size < wd.heap.size)
  case first =>
    have hbX : Below w.heap.size w (w.alloc (.cells #[.int .i64 5, .int .i64 oa, .int .i64 ob, .int .i64 oc, .string s, .string t, .string u] 35)).drew := ((Below.refl _ _).alloc (Nat.le_refl _) _).drew
    have hF := HF.out _ hbX
    have x4 : (w.alloc (.cells #[.int .i64 5, .int .i64 oa, .int .i64 ob, .int .i64 oc, .string s, .string t, .string u] 35)).drew.cell? ⟨w.heap.size, 4, none⟩ = some (.string s) := by simp
    have hsX : w.heap.size < (w.alloc (.cells #[.int .i64 5, .int .i64 oa, .int .i64 ob, .int .i64 oc, .string s, .string t, .string u] 35)).drew.heap.size := by simp
    have HX : Hid (Below w.heap.size w (w.alloc (.cells #[.int .i64 5, .int .i64 oa, .int .i64 ob, .int .i64 oc, .string s, .string t, .string u] 35)).drew ∧ w.heap.size < (w.alloc (.cells #[.int .i64 5, .int .i64 oa, .int .i64 ob, .int .i64 oc, .string s, .string t, .string u] 35)).drew.heap.size) := ⟨hbX, hsX⟩
    clear hbX hsX HF HRF HA
    go_region_with (go_at_call 21; refine hF.mono ?_; clear hF; rintro e w1 ⟨rv, rfl, hrow1, hb1⟩; obtain ⟨ra, rc, hrv⟩ := ownsRow_shape hrow1)
    all_goals go_wp2
    all_goals go_meet
    all_goals case rel =>
      subst hrv
      exact ⟨ra, rc, rfl, tx_of hrow1, below_keep hb1 HX.out.2 x4, HX.out.1.trans (hb1.mono (Nat.le_of_lt HX.out.2)), Nat.lt_of_lt_of_le HX.out.2 hb1.size⟩
  case rest =>
    obtain ⟨ra, rc, rfl, hx1, x4, hbw, hsz⟩ := hcut
    have a5 := below_keep hbw l3 b5
    have hrf := HRF.out wc.drew hbw.drew
    have HX : Hid (Below w.heap.size w wc ∧ Tx 9 wc (.slice ra T.length rc) T) := ⟨hbw, hx1⟩
    clear HF HA HRF hbw hx1 b1 b2 b3 b4 b5 hln
    go_wp2
    go_cut [15] (fun v wd => ∃ rb rd, v = .slice rb T.length rd ∧ Tx 9 wd (.slice rb T.length rd) T ∧ Tx 9 wd (.slice ra T.length rc) T ∧ Below w.heap.size w wd)
    case first =>
      go_region_with (go_at_call 22; refine hrf.mono ?_; clear hrf; rintro e w1 ⟨rv, rfl, hrow1, hb1⟩; obtain ⟨rb, rd, hrv⟩ := ownsRow_shape hrow1)
      all_goals go_wp2
      all_goals go_meet
      all_goals case rel =>
        subst hrv
        exact ⟨rb, rd, rfl, tx_of hrow1, (show Tx 9 wc.drew (.slice ra T.length rc) T from HX.out.2).below (Nat.le_refl _) hb1, HX.out.1.drew.trans (hb1.mono HX.out.1.size)⟩
    case rest =>
      clear hrf HX x4 a5
      obtain ⟨rb, rd, rfl, y1, y2, hbw⟩ := hcut
      have hsm := fun k => same_any T ra rb rc rd (wc.drewN k) (show Tx 9 (wc.drewN k) _ T from y2) (show Tx 9 (wc.drewN k) _ T from y1) (by omega)
      have HB : Hid (Below w.heap.size w wc) := hbw
      clear y1 y2 hbw
      go_wp2_with (go_at_call 20; refine (hsm 0).mono ?_; clear hsm; rintro e w3 ⟨rfl, nn, rfl⟩)
      go_ret
      exact ⟨rfl, below_drewN HB.out nn⟩
end Go.Proofs.YtjhlijobdihplaaGreatDoor
