import Derived.Test.YtjhlijobdihplaaGreatDoorA2
namespace Go.Proofs.YtjhlijobdihplaaGreatDoor
open Go.RowKit Go.Maps Go.Shelf

/-- the step's parameter lies in a block of its own -/
def opBlk (w : World) (b : Nat) (o : OpS) : Prop := w.heap[b]? = some (.cells #[.int .i64 o.kind, .int .i64 o.a, .int .i64 o.b, .int .i64 o.c, .string o.s, .string o.t, .string o.u] 35 (0, 0))
theorem opBlk_new (w : World) (o : OpS) : opBlk (w.alloc (.cells #[.int .i64 o.kind, .int .i64 o.a, .int .i64 o.b, .int .i64 o.c, .string o.s, .string o.t, .string o.u] 35)) w.heap.size o := World.alloc_heap_new w _
theorem opBlk.keep {w w' : World} {b : Nat} {o : OpS} {S : List TypeId} (h : opBlk w b o) (hk : KeepCells S w w') (hS : 35 ∉ S) : opBlk w' b o := (hk.same _ _ _ _ h hS).trans h
theorem opBlk.at {w : World} {b : Nat} {o : OpS} (h : opBlk w b o) : w.cell? ⟨b, 0, none⟩ = some (.int .i64 o.kind) ∧ w.cell? ⟨b, 1, none⟩ = some (.int .i64 o.a) ∧ w.cell? ⟨b, 4, none⟩ = some (.string o.s) ∧ w.cell? ⟨b, 5, none⟩ = some (.string o.t) ∧ w.cell? ⟨b, 6, none⟩ = some (.string o.u) := by
  unfold opBlk at h
  refine ⟨?_, ?_, ?_, ?_, ?_⟩ <;> simp [World.cell?, h]

theorem upd_id (rs : Nat → RD) (i : Nat) (r : RD) : (fun j => (upd rs i r j).id) = upd (fun j => (rs j).id) i r.id := by
  funext j
  by_cases e : j = i
  · subst e; rw [upd_same, upd_same]
  · rw [upd_other _ _ e, upd_other _ _ e]
theorem upd_l (rs : Nat → RD) (i : Nat) (r : RD) : (fun j => (upd rs i r j).l) = upd (fun j => (rs j).l) i r.l := by
  funext j
  by_cases e : j = i
  · subst e; rw [upd_same, upd_same]
  · rw [upd_other _ _ e, upd_other _ _ e]

/-- the law's world, one replica more -/
theorem law_new {base lw pw N : Nat} {wc w1 : World} {os : Nat → Nat} {ids : Nat → Int} {ls : Nat → List Reg} {oa : Int} {la a : Option Addr} {lc c : Nat} {tmp : Obj} (hL : LSt base wc lw pw N os ids ls)
    (hlw : wc.heap[lw]? = some (.cells #[.pointer (some ⟨pw, 0, none⟩), .slice la N lc] 33 (0, 0))) (hrow : wc.ownsRow base 39 1 (.slice la N lc) N (ptrs os N))
    (hgrow : ((wc.drew.alloc (.cells #[.int .i64 oa, .slice none 0 0, .slice none 0 0, .slice none 0 0] 42)).alloc tmp).grownBy w1 (Value.slice la N lc).ownBlock)
    (hown : w1.ownsRow base 39 1 (.slice a (N + 1) c) (N + 1) (ptrs os N ++ [.pointer (some ⟨wc.heap.size, 0, none⟩)])) :
    w1.heap[lw]? = some (.cells #[.pointer (some ⟨pw, 0, none⟩), .slice la N lc] 33 (0, 0)) ∧
    LSt base (w1.setCell ⟨lw, 1, none⟩ (.slice a (N + 1) c)) lw pw (N + 1) (upd os N wc.heap.size) (upd ids N oa) (upd ls N []) ∧ KeepTy [33, 39] wc (w1.setCell ⟨lw, 1, none⟩ (.slice a (N + 1) c)) ∧ Below base wc (w1.setCell ⟨lw, 1, none⟩ (.slice a (N + 1) c)) := by
  have hll : lw < wc.heap.size := (Array.getElem?_eq_some_iff.1 hlw).1
  obtain ⟨Y, hY⟩ : ∃ Y, wc.drew.alloc (.cells #[.int .i64 oa, .slice none 0 0, .slice none 0 0, .slice none 0 0] 42) = Y := ⟨_, rfl⟩
  have hbY : Below wc.heap.size wc Y := by rw [← hY]; exact (Below.refl _ _).drew.alloc (Nat.le_refl _) _
  have hYo : Y.heap[wc.heap.size]? = some (.cells #[.int .i64 oa, .slice none 0 0, .slice none 0 0, .slice none 0 0] 42 (0, 0)) := by rw [← hY]; exact World.alloc_heap_new wc.drew _
  have hYs : Y.heap.size = wc.heap.size + 1 := by rw [← hY]; simp
  rw [hY] at hgrow
  have hlwY : Y.heap[lw]? = some (.cells #[.pointer (some ⟨pw, 0, none⟩), .slice la N lc] 33 (0, 0)) := (hbY.block _ hll).trans hlw
  have hrowY : Y.ownsRow base 39 1 (.slice la N lc) N (ptrs os N) := row_keep (S := []) hrow (KeepCells.of_below hbY) (by simp)
  have hkt := append_keepTy (off := 1) (v' := .slice a (N + 1) c) hlwY hrowY hgrow
  have hktw : KeepTy [33, 39] wc (w1.setCell ⟨lw, 1, none⟩ (.slice a (N + 1) c)) := (KeepTy.of_below (S := []) hbY).trans hkt
  have hne : some lw ≠ (Value.slice la N lc).ownBlock := fun e => by
    rcases hrowY.2 with ⟨h, _⟩ | ⟨g, cap, cur, h, _, q3, _⟩
    · cases h; simp [Value.ownBlock] at e
    · cases h
      have : lw = g := by simpa [Value.ownBlock] using e
      subst this
      rw [hlwY] at q3; cases q3
  have hlw1 : w1.heap[lw]? = some (.cells #[.pointer (some ⟨pw, 0, none⟩), .slice la N lc] 33 (0, 0)) := by
    rw [hgrow.block lw (by simp; omega) hne, Below.heap_alloc _ _ _ (by omega)]; exact hlwY
  have hlow : Below base wc (w1.setCell ⟨lw, 1, none⟩ (.slice a (N + 1) c)) := by
    refine (((hbY.mono hL.hb).alloc (by have := hL.hb; omega) _).grown hgrow (by have := hL.hb; simp; omega) (fun k e => (hrowY.lt k e).1)).setCell (p := ⟨lw, 1, none⟩) hL.lwb _
  refine ⟨hlw1, ⟨hL.lwb, Nat.le_trans hL.hb hktw.size, ⟨a, c, ?_, ?_⟩, ?_, ?_⟩, hktw, hlow⟩
  · rw [heap_setCell_same _ lw 1 _ _ _ hlw1]; rfl
  · have e1 : ptrs (upd os N wc.heap.size) (N + 1) = ptrs os N ++ [.pointer (some ⟨wc.heap.size, 0, none⟩)] := by
      rw [ptrs_succ, upd_same, ptrs_congr (fun i hi => upd_other os _ (by omega))]
    rw [e1]
    refine hown.kept (row := some lw) ⟨rfl, rfl, rfl, by simp [World.setCell], fun k _ hk => Below.heap_setCell _ _ _ k (fun e => hk (by rw [e]))⟩ (.inr fun e => ?_)
    rcases hown.2 with ⟨h, _⟩ | ⟨g, cap, cur, h, _, q3, _⟩
    · cases h
    · cases h
      have : g = lw := by simpa [Value.ownBlock] using e
      subst this
      rw [hlw1] at q3; cases q3
  · intro i hi
    by_cases e : i = N
    · subst e
      rw [upd_same, upd_same, upd_same]
      exact ⟨hL.hb, _, (hkt.cells.same _ _ _ _ hYo (by decide)).trans hYo, World.ownsRow_nil _ _ _ _⟩
    · rw [upd_other _ _ e, upd_other _ _ e, upd_other _ _ e]
      obtain ⟨x1, bv, x2, x3⟩ := hL.ones i (by omega)
      exact ⟨x1, bv, (hktw.cells.same _ _ _ _ x2 (by decide)).trans x2, row_keep x3 hktw.cells (by decide)⟩
  · intro i j hi hj hij
    have hlt : ∀ q, q < N → os q < wc.heap.size := fun q hq => by
      obtain ⟨_, bv, x2, _⟩ := hL.ones q hq
      exact (Array.getElem?_eq_some_iff.1 x2).1
    by_cases e : i = N
    · subst e
      rw [upd_same, upd_other _ _ (fun e => hij e.symm)]
      have := hlt j (by omega); omega
    · rw [upd_other _ _ e]
      by_cases e2 : j = N
      · subst e2
        rw [upd_same]
        have := hlt i (by omega); omega
      · rw [upd_other _ _ e2]; exact hL.dist i j (by omega) (by omega) hij

set_option maxRecDepth 100000 in
set_option maxHeartbeats 4000000 in
theorem step_new (base lw pw N n : Nat) (rs : Nat → RD) (os : Nat → Nat) (o : OpS) (w : World) (hP : PSt base w pw N rs n) (hL : LSt base w lw pw N os (fun j => (rs j).id) (fun j => (rs j).l)) (hN : N < 5000) (hk : o.kind = 1) (ha : IdOk o.a) :
    Calls Tryz.prog 8 #[.pointer (some ⟨lw, 0, none⟩), o.value] w
      fun e w' => e = .returned (.bool true) ∧ ∃ rs' os', PSt base w' pw (N + 1) rs' n ∧ LSt base w' lw pw (N + 1) os' (fun j => (rs' j).id) (fun j => (rs' j).l) ∧ Below base w w' := by
  obtain ⟨kind, oa, ob, oc, s, t, u⟩ := o
  try dsimp only at hk ha
  subst hk
  unfold OpS.value
  obtain ⟨la, lc, hlw, hlrow⟩ := hL.law
  have b1 : w.cell? ⟨lw, 0, none⟩ = some (.pointer (some ⟨pw, 0, none⟩)) := by simp [World.cell?, hlw]
  have l1 := lt_of_cell b1
  clear hlw hlrow
  have HPL : Hid (PSt base w pw N rs n ∧ LSt base w lw pw N os (fun j => (rs j).id) (fun j => (rs j).l)) := ⟨hP, hL⟩
  clear hP hL
  go_enter Tryz.func8, Tryz.ntmps8
  go_wp2
  go_cut [5] (fun v wd => v = .bool true ∧ ∃ p, PSt base wd pw (N + 1) (upd rs N (newRD p oa)) n ∧ LSt base wd lw pw N os (fun j => (rs j).id) (fun j => (rs j).l) ∧ opBlk wd w.heap.size ⟨1, oa, ob, oc, s, t, u⟩ ∧ Below base w wd)
  case first =>
    have hbX : Below w.heap.size w (w.alloc (.cells #[.int .i64 1, .int .i64 oa, .int .i64 ob, .int .i64 oc, .string s, .string t, .string u] 35)).drew := ((Below.refl _ _).alloc (Nat.le_refl _) _).drew
    have hop : opBlk (w.alloc (.cells #[.int .i64 1, .int .i64 oa, .int .i64 ob, .int .i64 oc, .string s, .string t, .string u] 35)).drew w.heap.size ⟨1, oa, ob, oc, s, t, u⟩ := opBlk_new w ⟨1, oa, ob, oc, s, t, u⟩
    have hF := newP_any base pw N n rs oa _ (HPL.out.1.below (Nat.le_refl _) hbX) (by omega) ha
    have HX : Hid (opBlk (w.alloc (.cells #[.int .i64 1, .int .i64 oa, .int .i64 ob, .int .i64 oc, .string s, .string t, .string u] 35)).drew w.heap.size ⟨1, oa, ob, oc, s, t, u⟩ ∧ LSt base (w.alloc (.cells #[.int .i64 1, .int .i64 oa, .int .i64 ob, .int .i64 oc, .string s, .string t, .string u] 35)).drew lw pw N os (fun j => (rs j).id) (fun j => (rs j).l) ∧ Below base w (w.alloc (.cells #[.int .i64 1, .int .i64 oa, .int .i64 ob, .int .i64 oc, .string s, .string t, .string u] 35)).drew) := ⟨hop, HPL.out.2.below hbX, hbX.mono HPL.out.1.hb⟩
    clear hbX hop HPL
    go_region_with (go_at_call 10; refine hF.mono ?_; clear hF; rintro e w1 ⟨rfl, p, hP1, hk1, hb1⟩)
    all_goals go_wp2
    all_goals go_meet
    all_goals case rel => exact ⟨rfl, p, hP1, HX.out.2.1.keep hk1 (by decide) (by decide) (by decide) (by decide), HX.out.1.keep hk1 (by decide), HX.out.2.2.trans hb1⟩
  case rest =>
    obtain ⟨rfl, p, hP1, hL1, hop, hb1⟩ := hcut
    obtain ⟨la, lc, hlw, hlrow⟩ := hL1.law
    obtain ⟨_, a1, _, _, _⟩ := hop.at
    have b2 : wc.cell? ⟨lw, 1, none⟩ = some (.slice la N lc) := by simp [World.cell?, hlw]
    have l2 := lt_of_cell b2
    have l3 := lt_of_cell a1
    try dsimp only at a1
    obtain ⟨i0, hti, hz0, hz1, hz2⟩ := info_parts Tryz.infoOn
    have hbs := hL1.hb
    have HP : Hid (PSt base wc pw (N + 1) (upd rs N (newRD p oa)) n ∧ Below base w wc) := ⟨hP1, hb1⟩
    have HL : Hid (∀ (w1 : World) (a : Option Addr) (c : Nat) (tmp : Obj), ((wc.drew.alloc (.cells #[.int .i64 oa, .slice none 0 0, .slice none 0 0, .slice none 0 0] 42)).alloc tmp).grownBy w1 (Value.slice la N lc).ownBlock → w1.ownsRow base 39 1 (.slice a (N + 1) c) (N + 1) (ptrs os N ++ [.pointer (some ⟨wc.heap.size, 0, none⟩)]) →
        w1.heap[lw]? = some (.cells #[.pointer (some ⟨pw, 0, none⟩), .slice la N lc] 33 (0, 0)) ∧ LSt base (w1.setCell ⟨lw, 1, none⟩ (.slice a (N + 1) c)) lw pw (N + 1) (upd os N wc.heap.size) (upd (fun j => (rs j).id) N oa) (upd (fun j => (rs j).l) N []) ∧ KeepTy [33, 39] wc (w1.setCell ⟨lw, 1, none⟩ (.slice a (N + 1) c)) ∧ Below base wc (w1.setCell ⟨lw, 1, none⟩ (.slice a (N + 1) c))) := fun w1 a c tmp hg ho => law_new hL1 hlw hlrow hg ho
    clear HPL b1 hP1 hL1 hlw hop hb1
    go_wp2
    go_cut [] (fun wd => ∃ rs' os', PSt base wd pw (N + 1) rs' n ∧ LSt base wd lw pw (N + 1) os' (fun j => (rs' j).id) (fun j => (rs' j).l) ∧ Below base w wd)
    case first =>
      go_region_law (refine step_append_own rfl (.tmp 32) (.tmp 37) 31 rfl base 39 i0 _ 1 8 Tryz.underlying31 hti hz0 hz1 hz2 rfl (by decide) (.slice la N lc) N (ptrs os N) (by simp [Act.eval]) (by exact (hlrow.alloc _).alloc _) ⟨wc.heap.size + 1, 0, none⟩ 1 1 [.pointer (some ⟨wc.heap.size, 0, none⟩)] (by simp [Act.eval]) rfl (by exact news_at (wc.drew.alloc _) [.pointer (some ⟨wc.heap.size, 0, none⟩)] _ _ (by simp)) (by simp [Value.oneCell']) (by unfold maxLen; omega) (by omega) (by simp; omega) ?_; intro v' w1 hown' hgrow _; obtain ⟨g', cap', rfl⟩ := ownsRow_succ hown'; obtain ⟨z1, z2, z3, z4⟩ := HL.out w1 _ _ _ hgrow hown'; have y1 : w1.cell? ⟨lw, 1, none⟩ = some (.slice la N lc) := (by simp [World.cell?, z1]); have y2 : w1.frozen? ⟨lw, 1, none⟩ = false := (by simp [World.frozen?, z1]))
      all_goals go_wp2
      all_goals go_meet
      all_goals case rel => exact ⟨upd rs N (newRD p oa), upd os N wc.heap.size, HP.out.1.keep (Nat.le_refl _) z3 (by decide) (by decide) (by decide), by rw [upd_id, upd_l]; exact z2, HP.out.2.trans z4⟩
    case rest =>
      obtain ⟨rs', os', q1, q2, q3⟩ := hcut
      clear HP HL hlrow
      go_wp2
      go_ret
      exact ⟨rfl, rs', os', q1, q2, q3⟩
end Go.Proofs.YtjhlijobdihplaaGreatDoor
