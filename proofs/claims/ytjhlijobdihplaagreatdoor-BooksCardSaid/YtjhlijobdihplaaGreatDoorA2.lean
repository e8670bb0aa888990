import Derived.Test.YtjhlijobdihplaaGreatDoorA1
namespace Go.Proofs.YtjhlijobdihplaaGreatDoor
open Go.RowKit Go.Maps Go.Shelf

set_option maxRecDepth 100000 in
set_option maxHeartbeats 4000000 in
theorem asks_fields (base lw pw N n i : Nat) (rs : Nat → RD) (os : Nat → Nat) (o : OpS) (w : World) (hP : PSt base w pw N rs n) (hL : LSt base w lw pw N os (fun j => (rs j).id) (fun j => (rs j).l)) (hi : i < N) (hN : N ≤ 5000) (hn : n ≤ 5000) (hk : o.kind = 4) (hs : o.s.size ≤ 5000) :
    Calls Tryz.prog 9 #[.pointer (some ⟨lw, 0, none⟩), o.value, .int .i64 i] w
      fun e w' => e = .returned (.bool true) ∧ Below w.heap.size w w' := by
  obtain ⟨kind, oa, ob, oc, s, t, u⟩ := o
  try dsimp only at hk hs
  subst hk
  unfold OpS.value
  obtain ⟨g, cap, ba, bc, hA⟩ := hL.at hi
  try dsimp only at hA
  have hr := hP.reps i hi
  have hlen := hr.len
  obtain ⟨F, hT⟩ : ∃ F, fieldsL (rs i).l s = F := ⟨_, rfl⟩
  have hTl : F.length ≤ 5000 := by
    rw [← hT]
    exact Nat.le_trans (List.length_filter_le _ _) (by omega)
  have HF : Hid (∀ W, Below w.heap.size w W → Calls Tryz.prog 18 #[.pointer (some ⟨pw, 0, none⟩), .int .i64 i, .string s] W fun e w' => ∃ rv, e = .returned (.tuple #[rv, .bool true]) ∧ w'.ownsRow W.heap.size 9 1 rv (txF F).length ((txF F).map Value.string) ∧ Below W.heap.size W w') := fun W hb => by
    rw [← hT]; exact fieldsQ (hP.below (Nat.le_refl _) hb) hi hN hn s hs
  have HRF : Hid (∀ W, Below w.heap.size w W → Calls Tryz.prog 19 #[.slice ba (rs i).l.length bc, .string s] W fun e w' => ∃ v, e = .returned v ∧ w'.ownsRow W.heap.size 57 5 v F.length (rowCells F) ∧ Below W.heap.size W w') := fun W hb => by
    rw [← hT]
    exact fields_any (rs i).l s ba bc W (hA.bk.below (Nat.le_refl _) hb) (by omega)
  obtain ⟨b1, b2, b3, b4, b5, _, _⟩ := hA
  have l1 := lt_of_cell b1
  have l2 := lt_of_cell b3
  have l3 := lt_of_cell b4
  clear hP hL hr hT hlen
  go_enter Tryz.func9, Tryz.ntmps9
  go_wp2
  go_cut [8, 9] (fun v vo wd => ∃ ra rc, v = .slice ra (txF F).length rc ∧ vo = .bool true ∧ Tx 9 wd (.slice ra (txF F).length rc) (txF F) ∧ wd.cell? ⟨w.heap.size, 4, none⟩ = some (.string s) ∧ Below w.heap.size w wd ∧ w.heap.size < wd.heap.size)
  case first =>
    have hbX : Below w.heap.size w (w.alloc (.cells #[.int .i64 4, .int .i64 oa, .int .i64 ob, .int .i64 oc, .string s, .string t, .string u] 35)).drew := ((Below.refl _ _).alloc (Nat.le_refl _) _).drew
    have hF := HF.out _ hbX
    have x4 : (w.alloc (.cells #[.int .i64 4, .int .i64 oa, .int .i64 ob, .int .i64 oc, .string s, .string t, .string u] 35)).drew.cell? ⟨w.heap.size, 4, none⟩ = some (.string s) := by simp
    have hsX : w.heap.size < (w.alloc (.cells #[.int .i64 4, .int .i64 oa, .int .i64 ob, .int .i64 oc, .string s, .string t, .string u] 35)).drew.heap.size := by simp
    have HX : Hid (Below w.heap.size w (w.alloc (.cells #[.int .i64 4, .int .i64 oa, .int .i64 ob, .int .i64 oc, .string s, .string t, .string u] 35)).drew ∧ w.heap.size < (w.alloc (.cells #[.int .i64 4, .int .i64 oa, .int .i64 ob, .int .i64 oc, .string s, .string t, .string u] 35)).drew.heap.size) := ⟨hbX, hsX⟩
    clear hbX hsX HF HRF
    go_region_with (go_at_call 18; refine hF.mono ?_; clear hF; rintro e w1 ⟨rv, rfl, hrow1, hb1⟩; obtain ⟨ra, rc, hrv⟩ := ownsRow_shape hrow1)
    all_goals go_wp2
    all_goals go_meet
    all_goals case rel =>
      subst hrv
      exact ⟨ra, rc, rfl, rfl, tx_of hrow1, below_keep hb1 HX.out.2 x4, HX.out.1.trans (hb1.mono (Nat.le_of_lt HX.out.2)), Nat.lt_of_lt_of_le HX.out.2 hb1.size⟩
  case rest =>
    obtain ⟨ra, rc, rfl, rfl, hx1, x4, hbw, hsz⟩ := hcut
    have a5 := below_keep hbw l3 b5
    have hrf := HRF.out wc.drew hbw.drew
    have HX : Hid (Below w.heap.size w wc ∧ Tx 9 wc (.slice ra (txF F).length rc) (txF F)) := ⟨hbw, hx1⟩
    clear HF HRF hbw hx1 b1 b2 b3 b4 b5
    go_wp2
    go_cut [10] (fun v wd => ∃ rb rd, v = .slice rb F.length rd ∧ Bk 57 wd (.slice rb F.length rd) F ∧ Tx 9 wd (.slice ra (txF F).length rc) (txF F) ∧ Below w.heap.size w wd)
    case first =>
      go_region_with (go_at_call 19; refine hrf.mono ?_; clear hrf; rintro e w1 ⟨rv, rfl, hrow1, hb1⟩; obtain ⟨rb, rd, hrv⟩ := ownsRow_shape hrow1)
      all_goals go_wp2
      all_goals go_meet
      all_goals case rel =>
        subst hrv
        exact ⟨rb, rd, rfl, bk_of hrow1, (show Tx 9 wc.drew (.slice ra (txF F).length rc) (txF F) from HX.out.2).below (Nat.le_refl _) hb1, HX.out.1.drew.trans (hb1.mono HX.out.1.size)⟩
    case rest =>
      clear hrf HX x4 a5
      obtain ⟨rb, rd, rfl, y1, y2, hbw⟩ := hcut
      obtain ⟨i0, hti, hz0, hz1, hz2⟩ := info_parts Tryz.infoStr
      obtain ⟨wl, hwl⟩ : ∃ wl, wc = wl := ⟨_, rfl⟩
      subst hwl
      have HB : Hid (Below w.heap.size w wc) := hbw
      clear hbw
      go_wp2
      go_loopg [11, 12] F.length (fun q wv kv wr => ∃ k : Nat, q + k = F.length ∧ kv = .int .i64 k ∧ wr.ownsRow wc.heap.size 9 1 wv (txF (F.take k)).length ((txF (F.take k)).map Value.string) ∧ Below wc.heap.size wc wr)
      case atStart => exact ⟨0, by omega, rfl, World.ownsRow_nil _ _ _ _, Below.refl _ _⟩
      case round =>
        obtain ⟨k, hq, rfl, hrow, hb⟩ := hrel
        by_cases hlt : k < F.length
        · obtain ⟨g5, rfl⟩ := y1.shape.2 (by intro h; simp [h] at hlt)
          have HT : Hid (txF (F.take (k + 1)) = txF (F.take k) ++ [(reg F k).f, (reg F k).v]) := by
            show _ = _
            rw [take_reg F k hlt, txF_snoc]
          have hlen3 : (txF (F.take k)).length ≤ 10000 := by
            have h2 : (F.take k).length ≤ k := List.length_take_le _ _
            rw [txF_len]; omega
          generalize txF (F.take k) = out at *
          obtain ⟨oa2, ocap, rfl⟩ := ownsRow_shape hrow
          obtain ⟨c0, c1, c2, c3, c4⟩ := (y1.below (Nat.le_refl _) hb).five k hlt
          have hsz := hb.size
          have hg5 := (y1.below (Nat.le_refl _) hb).lt
          clear y1 y2 c0 c2 c3
          go_upto_region 10 with fail
          go_region_law (refine step_append_own rfl (.tmp 57) (.tmp 68) 52 rfl wc.heap.size 9 i0 _ 1 16 Tryz.underlying52 hti hz0 hz1 hz2 rfl (by decide) (.slice oa2 out.length ocap) out.length (out.map Value.string) (by simp [Act.eval]) (by exact hrow.alloc _) ⟨wr.heap.size, 0, none⟩ 2 2 [.string (reg F k).f, .string (reg F k).v] (by simp [Act.eval]) rfl (by exact news_new wr [.string (reg F k).f, .string (reg F k).v] _) (by simp [Value.oneCell']) (by unfold maxLen; omega) (by omega) (by simp; omega) ?_; intro v' w1 hown' hgrow _)
          all_goals
            have hb4 := (Below.alloc hb hsz _).drew.grown hgrow (by simp; omega) (ownBlock_ge hrow)
            go_wp2_with fail
            go_roundg (gk - 1)
            case measure => omega
            case rel => exact ⟨k + 1, by omega, by go_num, by rw [HT.out, List.length_append, List.map_append]; exact hown', hb4⟩
        · have e : F.take k = F := List.take_of_length_le (by omega)
          rw [e] at hrow
          obtain ⟨oa2, ocap, rfl⟩ := ownsRow_shape hrow
          have hsm := same_any (txF F) ra oa2 rc ocap wr (y2.below (Nat.le_refl _) hb) (tx_of hrow) (by rw [txF_len]; omega)
          have HB2 : Hid (Below w.heap.size w wr) := HB.out.trans (hb.mono HB.out.size)
          clear y1 y2 hrow hb HB e
          go_wp2_with (go_at_call 20; refine hsm.mono ?_; clear hsm; rintro e w3 ⟨rfl, nn, rfl⟩)
          go_ret
          exact ⟨rfl, below_drewN HB2.out nn⟩
end Go.Proofs.YtjhlijobdihplaaGreatDoor
