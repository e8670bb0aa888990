import Derived.Test.YtjhlijobdihplaaGreatDoorM13
namespace Go.Proofs.YtjhlijobdihplaaGreatDoor
open Go.RowKit Go.Maps Go.Shelf

set_option maxRecDepth 100000 in
set_option maxHeartbeats 4000000 in
theorem step_none (lw _pw : Nat) (lc : Nat) (la : Option Addr) (o : OpS) (w : World) (b2 : w.cell? ⟨lw, 1, none⟩ = some (.slice la 0 lc)) (hk : o.kind ≠ 1) :
    Calls Tryz.prog 8 #[.pointer (some ⟨lw, 0, none⟩), o.value] w
      fun e w' => e = .returned (.bool true) ∧ Below w.heap.size w w' := by
  obtain ⟨kind, oa, ob, oc, s, t, u⟩ := o
  try dsimp only at hk
  unfold OpS.value
  have l1 := lt_of_cell b2
  have hk1 : (kind == 1) = false := by simp [hk]
  go_enter Tryz.func8, Tryz.ntmps8
  go_wp2
  go_ret
  exact ⟨rfl, (Below.refl _ _).alloc (Nat.le_refl _) _⟩

set_option maxRecDepth 100000 in
set_option maxHeartbeats 4000000 in
theorem step_put (base lw pw N n i : Nat) (rs : Nat → RD) (os : Nat → Nat) (o : OpS) (w : World) (hE : ErrT w) (hP : PSt base w pw N rs n) (hL : LSt base w lw pw N os (fun j => (rs j).id) (fun j => (rs j).l)) (h0 : 0 < N) (hN : N ≤ 5000) (hn : n < 5000) (hk : o.kind = 2) (hs : o.s.size ≤ 5000) (ht : o.t.size ≤ 5000) (hu : o.u.size ≤ 5000) (ha : -9223372036854775808 ≤ o.a) (ha2 : o.a < 9223372036854775808) (hpi : pickI o.a N = (i : Int)) (hi : i < N) :
    Calls Tryz.prog 8 #[.pointer (some ⟨lw, 0, none⟩), o.value] w
      fun e w' => e = .returned (.bool true) ∧ ∃ rs', PSt base w' pw N rs' (n + 1) ∧ LSt base w' lw pw N os (fun j => (rs' j).id) (fun j => (rs' j).l) ∧ Below base w w' := by
  obtain ⟨kind, oa, ob, oc, s, t, u⟩ := o
  try dsimp only at hk hs ht hu ha ha2 hpi
  subst hk
  unfold OpS.value
  obtain ⟨g, cap, ba, bc, hA⟩ := hL.at hi
  try dsimp only at hA
  have hpk := fun W => pick_any oa N W ha ha2 (by omega) (by omega)
  rw [hpi] at hpk
  obtain ⟨b1, b2, b3, b4, b5, _, _⟩ := hA
  have l1 := lt_of_cell b1
  have l2 := lt_of_cell b3
  have l3 := lt_of_cell b4
  have HPL : Hid (PSt base w pw N rs n ∧ LSt base w lw pw N os (fun j => (rs j).id) (fun j => (rs j).l)) := ⟨hP, hL⟩
  have hP0 := hP.hb
  clear hP hL
  go_enter Tryz.func8, Tryz.ntmps8
  go_wp2
  go_cut [6] (fun v wd => v = .int .i64 i ∧ opBlk wd w.heap.size ⟨2, oa, ob, oc, s, t, u⟩ ∧ Below w.heap.size w wd)
  case first => --F
    have hop : opBlk (w.alloc (.cells #[.int .i64 2, .int .i64 oa, .int .i64 ob, .int .i64 oc, .string s, .string t, .string u] 35)).drew w.heap.size ⟨2, oa, ob, oc, s, t, u⟩ := opBlk_new w ⟨2, oa, ob, oc, s, t, u⟩
    have hbX : Below w.heap.size w (w.alloc (.cells #[.int .i64 2, .int .i64 oa, .int .i64 ob, .int .i64 oc, .string s, .string t, .string u] 35)).drew := ((Below.refl _ _).alloc (Nat.le_refl _) _).drew
    have HX : Hid (opBlk (w.alloc (.cells #[.int .i64 2, .int .i64 oa, .int .i64 ob, .int .i64 oc, .string s, .string t, .string u] 35)).drew w.heap.size ⟨2, oa, ob, oc, s, t, u⟩ ∧ Below w.heap.size w (w.alloc (.cells #[.int .i64 2, .int .i64 oa, .int .i64 ob, .int .i64 oc, .string s, .string t, .string u] 35)).drew) := ⟨hop, hbX⟩
    clear hop hbX HPL
    go_region_with (go_at_call 11; refine (hpk _).mono ?_; rintro e w1 ⟨rfl, rfl⟩)
    all_goals go_wp2
    all_goals go_meet
    all_goals case rel => exact ⟨rfl, HX.out.1, HX.out.2⟩
  case rest =>
    obtain ⟨rfl, hop, hbw⟩ := hcut
    obtain ⟨o0, o1, o4, o5, o6⟩ := hop.at
    have HP : Hid (PSt base wc pw N rs n ∧ LSt base wc lw pw N os (fun j => (rs j).id) (fun j => (rs j).l) ∧ Below w.heap.size w wc ∧ opBlk wc w.heap.size ⟨2, oa, ob, oc, s, t, u⟩ ∧ ErrT wc) := ⟨HPL.out.1.below (Nat.le_refl _) hbw, HPL.out.2.below hbw, hbw, hop, errT_below hE hbw⟩
    have a1 := below_keep hbw l1 b1
    have a2 := below_keep hbw l1 b2
    have a3 := below_keep hbw l2 b3
    have a4 := below_keep hbw l3 b4
    have a5 := below_keep hbw l3 b5
    have k1 := lt_of_cell a1
    have k2 := lt_of_cell a3
    have k3 := lt_of_cell a4
    have k4 := lt_of_cell o0
    try dsimp only at o0 o1 o4 o5 o6
    clear HPL hpk hop hbw b1 b2 b3 b4 b5 hE
    have hrp : ∀ W, Below wc.heap.size wc W → Calls Tryz.prog 12 #[.slice ba (rs i).l.length bc, .int .i64 (rs i).id, .string s, .string t, .string u] W
        fun e w' => ∃ v, e = .returned (.tuple #[v, .int .i64 (putL (rs i).l (rs i).id s t u).2.1, .string (putL (rs i).l (rs i).id s t u).2.2]) ∧ Bk 57 w' v (putL (rs i).l (rs i).id s t u).1 ∧ Below W.heap.size W w' := fun W hb => by
      obtain ⟨hP9, hL9, _, _, _⟩ := HP.out
      obtain ⟨_, bv9, q1, q2⟩ := hL9.ones i hi
      have e9 : bv9 = .slice ba (rs i).l.length bc := by
        have : wc.cell? ⟨os i, 1, none⟩ = some bv9 := by simp [World.cell?, q1]
        rw [a5] at this; cases this; rfl
      subst e9
      have hlen9 := (hP9.reps i hi).len
      have hclk9 := (hP9.reps i hi).clock
      exact refPut_any (rs i).l (rs i).id s t u ba bc W (q2.below (Nat.le_refl _) hb) (by omega) (by omega) (Nat.le_trans hs (by unfold maxLen; decide)) (Nat.le_trans ht (by unfold maxLen; decide)) (Nat.le_trans hu (by unfold maxLen; decide))
    obtain ⟨en, hen⟩ : ∃ en, (putL (rs i).l (rs i).id s t u).2.1 = en := ⟨_, rfl⟩
    obtain ⟨ew, hew⟩ : ∃ ew, (putL (rs i).l (rs i).id s t u).2.2 = ew := ⟨_, rfl⟩
    obtain ⟨el, hel⟩ : ∃ el, (putL (rs i).l (rs i).id s t u).1 = el := ⟨_, rfl⟩
    rw [hen, hew, hel] at hrp
    have hrp1 := hrp wc.drew (Below.refl _ _).drew
    clear hrp
    go_wp2
    go_cut [8, 9, 10] (fun v8 v9 v10 wd => ∃ xa xc, v8 = .slice xa el.length xc ∧ v9 = .int .i64 en ∧ v10 = .string ew ∧ Bk 57 wd (.slice xa el.length xc) el ∧ Below wc.heap.size wc wd)
    case first => --F
      clear HP
      refine region_reads 14 (by kernel_rfl) (by kernel_rfl) ?_
      simp only [List.take_succ_cons, List.take_zero]
      repeat still_step
      refine wpStill_nil ?_
      refine wpAny_ready (rs := [14]) (by kernel_rfl) (by simp) ?_
      refine AllReady.cons rfl (fun K hK => ?_) AllReady.nil
      go_simp
      go_wp2_with (go_at_call 12; refine hrp1.mono ?_; clear hrp1; rintro e w5 ⟨v5, rfl, hbk5, hb5⟩; obtain ⟨xa, xc, hv5⟩ := ownsRow_shape hbk5)
      refine wpAny_take (i := 15) (v := ?v15) rfl (by kernel_rfl) (by kernel_rfl) (by kernel_rfl) (fun _ _ _ h => h) (Or.inl ⟨by rfl, ?hy15⟩) ?rs15
      case hy15 => (intro w; go_simp; try with_reducible rfl)
      refine wpAny_take (i := 16) (v := ?v16) rfl (by kernel_rfl) (by kernel_rfl) (by kernel_rfl) (fun _ _ _ h => h) (Or.inl ⟨by rfl, ?hy16⟩) ?rs16
      case hy16 => (intro w; go_simp; try with_reducible rfl)
      refine wpAny_take (i := 17) (v := ?v17) rfl (by kernel_rfl) (by kernel_rfl) (by kernel_rfl) (fun _ _ _ h => h) (Or.inl ⟨by rfl, ?hy17⟩) ?rs17
      case hy17 => (intro w; go_simp; try with_reducible rfl)
      refine wpAny_take (i := 18) (v := ?v18) rfl (by kernel_rfl) (by kernel_rfl) (by kernel_rfl) (fun _ _ _ h => h) (Or.inl ⟨by rfl, ?hy18⟩) ?rs18
      case hy18 => (intro w; go_simp; try with_reducible rfl)
      refine wpAny_take (i := 19) (v := ?v19) rfl (by kernel_rfl) (by kernel_rfl) (by kernel_rfl) (fun _ _ _ h => h) (Or.inl ⟨by rfl, ?hy19⟩) ?rs19
      case hy19 => (intro w; go_simp; try with_reducible rfl)
      refine wpAny_take (i := 20) (v := ?v20) rfl (by kernel_rfl) (by kernel_rfl) (by kernel_rfl) (fun _ _ _ h => h) (Or.inl ⟨by rfl, ?hy20⟩) ?rs20
      case hy20 => (intro w; go_simp; try with_reducible rfl)
      refine wpAny_take (i := 21) (v := ?v21) rfl (by kernel_rfl) (by kernel_rfl) (by kernel_rfl) (fun _ _ _ h => h) (Or.inl ⟨by rfl, ?hy21⟩) ?rs21
      case hy21 => (intro w; go_simp; try with_reducible rfl)
      refine wpAny_done (by kernel_rfl) ?_ _
      go_wp2
      go_frame
      go_meet
      case rel => exact ⟨xa, xc, rfl, rfl, rfl, hv5 ▸ hbk5, (Below.refl _ wc).drew.trans hb5⟩
    case rest =>
      obtain ⟨xa, xc, rfl, rfl, rfl, hbk5, hb5⟩ := hcut
      obtain ⟨hP5, hL5, hbw5, hop5, hE5⟩ := HP.out
      have hP6 := hP5.below (Nat.le_refl _) hb5
      have hL6 := hL5.below hb5
      have hop6 : opBlk wc w.heap.size ⟨2, oa, ob, oc, s, t, u⟩ := hop5.keep (S := []) (KeepCells.of_below hb5) (by simp)
      have hbw6 : Below base w wc := (hbw5.mono hP0).trans (hb5.mono hP5.hb)
      have hE6 := errT_below hE5 hb5
      have HQ : Hid (∀ W, Below wc.heap.size wc W → Calls Tryz.prog 13 #[.pointer (some ⟨pw, 0, none⟩), .int .i64 i, .string s, .string t, .string u] W
          fun e w' => e = .returned (.agg #[.int .i64 en, .string ew]) ∧ ∃ r', r'.id = (rs i).id ∧ r'.l = el ∧ PSt base w' pw N (upd rs i r') (n + 1) ∧ KeepCells [108] W w' ∧ Below base W w') := fun W hb => by
        rw [← hen, ← hew, ← hel]
        exact putQ (hP6.below (Nat.le_refl _) hb) (errT_below hE6 hb) hi hN hn s t u hs ht hu
      have HP6 : Hid (LSt base wc lw pw N os (fun j => (rs j).id) (fun j => (rs j).l) ∧ Below base w wc ∧ Bk 57 wc (.slice xa el.length xc) el ∧ base ≤ wc.heap.size) := ⟨hL6, hbw6, hbk5, hP6.hb⟩
      obtain ⟨_, _, p4, p5, p6⟩ := hop6.at
      have c1 := below_keep hb5 k1 a1
      have m1 := lt_of_cell c1
      have m4 := lt_of_cell p4
      try dsimp only at p4 p5 p6
      clear HP hP5 hL5 hbw5 hop5 hE5 hP6 hL6 hop6 hbw6 hE6 hbk5 hb5 o0 o1 o4 o5 o6 a1 a2 a3 a4 a5 k1 k2 k3 k4 hen hew hel
      go_wp2
      go_cut [11] (fun v wd => ∃ fb r', v = .pointer (some ⟨fb, 0, none⟩) ∧ wd.heap[fb]? = some (.cells #[.int .i64 en, .string ew] 47 (0, 0)) ∧ r'.id = (rs i).id ∧ r'.l = el ∧ PSt base wd pw N (upd rs i r') (n + 1) ∧ LSt base wd lw pw N os (fun j => (rs j).id) (fun j => (rs j).l) ∧ Bk 57 wd (.slice xa el.length xc) el ∧ Below base w wd)
      case first =>
        refine wp_region_any (by kernel_rfl) ?_
        change wpAny _ _ _ _ _ _ _ (World.drew _)
        refine wpAny_take (i := 0) (v := ?v100) rfl (by kernel_rfl) (by kernel_rfl) (by kernel_rfl) (fun _ _ _ h => h) (Or.inl ⟨by rfl, ?hy100⟩) ?rs100
        case hy100 => (intro w; go_simp; try with_reducible rfl)
        refine wpAny_take (i := 1) (v := ?v101) rfl (by kernel_rfl) (by kernel_rfl) (by kernel_rfl) (fun _ _ _ h => h) (Or.inl ⟨by rfl, ?hy101⟩) ?rs101
        case hy101 => (intro w; go_simp; try with_reducible rfl)
        refine wpAny_take (i := 2) (v := ?v102) rfl (by kernel_rfl) (by kernel_rfl) (by kernel_rfl) (fun _ _ _ h => h) (Or.inl ⟨by rfl, ?hy102⟩) ?rs102
        case hy102 => (intro w; go_simp; try with_reducible rfl)
        refine wpAny_take (i := 4) (v := ?v104) rfl (by kernel_rfl) (by kernel_rfl) (by kernel_rfl) (fun _ _ _ h => h) (Or.inl ⟨by rfl, ?hy104⟩) ?rs104
        case hy104 => (intro w; go_simp; try with_reducible rfl)
        refine wpAny_take (i := 5) (v := ?v105) rfl (by kernel_rfl) (by kernel_rfl) (by kernel_rfl) (fun _ _ _ h => h) (Or.inl ⟨by rfl, ?hy105⟩) ?rs105
        case hy105 => (intro w; go_simp; try with_reducible rfl)
        refine wpAny_take (i := 7) (v := ?v107) rfl (by kernel_rfl) (by kernel_rfl) (by kernel_rfl) (fun _ _ _ h => h) (Or.inl ⟨by rfl, ?hy107⟩) ?rs107
        case hy107 => (intro w; go_simp; try with_reducible rfl)
        refine wpAny_take (i := 9) (v := ?v109) rfl (by kernel_rfl) (by kernel_rfl) (by kernel_rfl) (fun _ _ _ h => h) (Or.inl ⟨by rfl, ?hy109⟩) ?rs109
        case hy109 => (intro w; go_simp; try with_reducible rfl)
        go_frame
        have f4 := fun o => World.cell?_alloc_lt wc.drew o ⟨w.heap.size, 4, none⟩ (by exact m4)
        have f5 := fun o => World.cell?_alloc_lt wc.drew o ⟨w.heap.size, 5, none⟩ (by exact m4)
        have f6 := fun o => World.cell?_alloc_lt wc.drew o ⟨w.heap.size, 6, none⟩ (by exact m4)
        have f1 := fun o => World.cell?_alloc_lt wc.drew o ⟨lw, 0, none⟩ (by exact m1)
        refine four_reads _ _ wc.drew (wc.drew.alloc (.cells #[.int .i64 0, .string ⟨#[]⟩] 47)) 3 6 8 10 12 89 92 94 96 11 (.pointer (some ⟨pw, 0, none⟩)) (.string s) (.string t) (.string u) (.pointer (some ⟨wc.heap.size, 0, none⟩)) 2 (by decide) (by decide) ?s1 ?s2 ?s3 ?s4 ?s5 (chk5_spec (by kernel_rfl)) ?e0 ?e1
        case s1 =>
          intro b2 b3 b4 b5 K hK
          refine load_at (s := 88) (ad := ⟨lw, 0, none⟩) rfl rfl rfl (.inr rfl) ?_ ?_ hK
          · rw [eval_putIf (by decide), eval_putIf (by decide), eval_putIf (by decide), eval_putIf (by decide)]; simp [Act.eval]
          · cases b5
            · exact c1
            · exact (f1 _).trans c1
        case s2 =>
          intro b2 b3 b4 b5 K hK
          refine load_at (s := 91) (ad := ⟨w.heap.size, 4, none⟩) rfl rfl rfl (.inl rfl) ?_ ?_ hK
          · rw [eval_putIf (by decide), eval_putIf (by decide), eval_putIf (by decide), eval_putIf (by decide)]; simp [Act.eval]
          · cases b5
            · exact p4
            · exact (f4 _).trans p4
        case s3 =>
          intro b2 b3 b4 b5 K hK
          refine load_at (s := 93) (ad := ⟨w.heap.size, 5, none⟩) rfl rfl rfl (.inl rfl) ?_ ?_ hK
          · rw [eval_putIf (by decide), eval_putIf (by decide), eval_putIf (by decide), eval_putIf (by decide)]; simp [Act.eval]
          · cases b5
            · exact p5
            · exact (f5 _).trans p5
        case s4 =>
          intro b2 b3 b4 b5 K hK
          refine load_at (s := 95) (ad := ⟨w.heap.size, 6, none⟩) rfl rfl rfl (.inl rfl) ?_ ?_ hK
          · rw [eval_putIf (by decide), eval_putIf (by decide), eval_putIf (by decide), eval_putIf (by decide)]; simp [Act.eval]
          · cases b5
            · exact p6
            · exact (f6 _).trans p6
        case s5 =>
          intro b2 b3 b4 b5 K hK
          exact alloc_at rfl rfl rfl hK
        case e0 =>
          clear f1 f4 f5 f6 c1 p4 p5 p6
          simp only [putIf, setIf, if_true]
          go_frame
          have hq0 := HQ.out wc.drew (Below.refl _ _).drew
          have hq1 := HQ.out (wc.drew.alloc (.cells #[.int .i64 0, .string ⟨#[]⟩] 47)) ((Below.refl _ _).drew.alloc (Nat.le_refl _) _)
          clear HQ
          refine wpAny_ready (rs := [11, 12]) (by kernel_rfl) (by simp) ?_
          refine AllReady.cons rfl (fun K hK => ?_) (AllReady.cons rfl (fun K hK => ?_) AllReady.nil)
          · go_simp
            go_wp2_with (go_at_call 13; refine hq0.mono ?_; clear hq0 hq1; rintro e w5 ⟨rfl, r', e1, e2, hP7, hk7, hb7⟩)
            obtain ⟨z1, z2, z3, z4, z5⟩ := fault_late hP7 HP6.out.1 HP6.out.2.2.1 HP6.out.2.1 hk7 hb7 (.int .i64 en) (.string ew)
            have HZ : Hid (_ ∧ _ ∧ _ ∧ _ ∧ _ ∧ _ ∧ _) := ⟨e1, e2, z1, z2, z3, z4, z5⟩
            clear e1 e2 hP7 hk7 hb7 z1 z2 z3 z4 z5
            refine wpAny_ready (rs := [12]) (by kernel_rfl) (by simp) ?_
            refine AllReady.cons rfl (fun K hK => ?_) AllReady.nil
            go_simp
            refine hK _ _ ?_
            clear hK K
            have y0 : (w5.alloc (.cells #[.int .i64 0, .string ⟨#[]⟩] 47)).heap[w5.heap.size]? = some (.cells #[.int .i64 0, .string ⟨#[]⟩] 47 (0, 0)) := World.alloc_heap_new w5 _
            refine wpAny_ready (rs := [13]) (by kernel_rfl) (by simp) ?_
            refine AllReady.cons rfl (fun K hK => ?_) AllReady.nil
            go_simp
            refine hK _ _ ?_
            clear hK K
            refine wpAny_done (by kernel_rfl) ?_ _
            go_wp2
            try go_frame
            go_meet
            case rel =>
              obtain ⟨e1, e2, z1, z2, z3, z4, z5⟩ := HZ.out
              exact ⟨_, r', rfl, z1, e1, e2, z2, z3, z4, z5⟩
          · go_simp
            refine hK _ _ ?_
            clear hK K
            refine wpAny_ready (rs := [11]) (by kernel_rfl) (by simp) ?_
            refine AllReady.cons rfl (fun K hK => ?_) AllReady.nil
            go_simp
            go_wp2_with (go_at_call 13; refine hq1.mono ?_; clear hq0 hq1; rintro e w5 ⟨rfl, r', e1, e2, hP7, hk7, hb7⟩)
            obtain ⟨z0, z1, z2, z3, z4, z5⟩ := fault_early hP7 HP6.out.1 HP6.out.2.2.1 HP6.out.2.1 hk7 hb7 (.int .i64 en) (.string ew)
            have HZ : Hid (_ ∧ _ ∧ _ ∧ _ ∧ _ ∧ _ ∧ _) := ⟨e1, e2, z1, z2, z3, z4, z5⟩
            clear e1 e2 hP7 hk7 hb7 z1 z2 z3 z4 z5
            have y0 : w5.cell? ⟨wc.heap.size, 0, none⟩ = some (.int .i64 0) := by simp [World.cell?, z0]
            have y1 : w5.cell? ⟨wc.heap.size, 1, none⟩ = some (.string ⟨#[]⟩) := by simp [World.cell?, z0]
            have y2 : w5.frozen? ⟨wc.heap.size, 0, none⟩ = false := by simp [World.frozen?, z0]
            have y3 : w5.frozen? ⟨wc.heap.size, 1, none⟩ = false := by simp [World.frozen?, z0]
            clear z0
            refine wpAny_ready (rs := [13]) (by kernel_rfl) (by simp) ?_
            refine AllReady.cons rfl (fun K hK => ?_) AllReady.nil
            go_simp
            refine hK _ _ ?_
            clear hK K
            refine wpAny_done (by kernel_rfl) ?_ _
            go_wp2
            try go_frame
            go_meet
            case rel =>
              obtain ⟨e1, e2, z1, z2, z3, z4, z5⟩ := HZ.out
              exact ⟨_, r', rfl, z1, e1, e2, z2, z3, z4, z5⟩
        case e1 =>
          clear f1 f4 f5 f6 c1 p4 p5 p6
          simp only [putIf, setIf, if_true]
          go_frame
          have hq1 := HQ.out (wc.drew.alloc (.cells #[.int .i64 0, .string ⟨#[]⟩] 47)) ((Below.refl _ _).drew.alloc (Nat.le_refl _) _)
          clear HQ
          refine wpAny_ready (rs := [11]) (by kernel_rfl) (by simp) ?_
          refine AllReady.cons rfl (fun K hK => ?_) AllReady.nil
          go_simp
          go_wp2_with (go_at_call 13; refine hq1.mono ?_; clear hq1; rintro e w5 ⟨rfl, r', e1, e2, hP7, hk7, hb7⟩)
          obtain ⟨z0, z1, z2, z3, z4, z5⟩ := fault_early hP7 HP6.out.1 HP6.out.2.2.1 HP6.out.2.1 hk7 hb7 (.int .i64 en) (.string ew)
          have HZ : Hid (_ ∧ _ ∧ _ ∧ _ ∧ _ ∧ _ ∧ _) := ⟨e1, e2, z1, z2, z3, z4, z5⟩
          clear e1 e2 hP7 hk7 hb7 z1 z2 z3 z4 z5
          have y0 : w5.cell? ⟨wc.heap.size, 0, none⟩ = some (.int .i64 0) := by simp [World.cell?, z0]
          have y1 : w5.cell? ⟨wc.heap.size, 1, none⟩ = some (.string ⟨#[]⟩) := by simp [World.cell?, z0]
          have y2 : w5.frozen? ⟨wc.heap.size, 0, none⟩ = false := by simp [World.frozen?, z0]
          have y3 : w5.frozen? ⟨wc.heap.size, 1, none⟩ = false := by simp [World.frozen?, z0]
          clear z0
          refine wpAny_ready (rs := [13]) (by kernel_rfl) (by simp) ?_
          refine AllReady.cons rfl (fun K hK => ?_) AllReady.nil
          go_simp
          refine hK _ _ ?_
          clear hK K
          refine wpAny_done (by kernel_rfl) ?_ _
          go_wp2
          try go_frame
          go_meet
          case rel =>
            obtain ⟨e1, e2, z1, z2, z3, z4, z5⟩ := HZ.out
            exact ⟨_, r', rfl, z1, e1, e2, z2, z3, z4, z5⟩
      case rest =>
        obtain ⟨fb, r', rfl, hf8, e1, e2, hP8, hL8, hB8, hb8⟩ := hcut
        obtain ⟨z1, z2, z3⟩ := law_store hL8 hi hB8
        obtain ⟨q1, bv8, q2, q3⟩ := hL8.ones i hi
        have c1 : wc.cell? ⟨fb, 0, none⟩ = some (.int .i64 en) := by simp [World.cell?, hf8]
        have c2 : wc.cell? ⟨fb, 1, none⟩ = some (.string ew) := by simp [World.cell?, hf8]
        have c3 : wc.cell? ⟨os i, 1, none⟩ = some bv8 := by simp [World.cell?, q2]
        have c4 : wc.frozen? ⟨os i, 1, none⟩ = false := by simp [World.frozen?, q2]
        have c5 : fb ≠ os i := fun e => by rw [e, q2] at hf8; cases hf8
        have HW : Hid (_ ∧ _ ∧ _ ∧ _ ∧ _ ∧ _ ∧ _) := ⟨e1, e2, hP8, z1, z2, z3, hb8⟩
        have k1 := lt_of_cell c1
        have k2 := lt_of_cell c3
        clear HP6 HQ hf8 e1 e2 hP8 hL8 hB8 hb8 z1 z2 z3 q2 q3 p4 p5 p6
        go_wp2
        go_ret
        obtain ⟨e1, e2, hP8, z1, z2, z3, hb8⟩ := HW.out
        refine ⟨rfl, upd rs i r', hP8.keep (Nat.le_refl _) z2 (by decide) (by decide) (by decide), ?_, hb8.trans z3⟩
        rw [upd_id, upd_l, e1, e2, upd_self (fun j => (rs j).id) i]
        exact z1
end Go.Proofs.YtjhlijobdihplaaGreatDoor
