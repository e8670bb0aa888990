import Derived.Test.YtdfafhclhfijnaaGreatDoorI6
namespace Go.Proofs.YtdfafhclhfijnaaGreatDoor
open Go.RowKit Go.Maps Go.Shelf Go.Lib Go.Extern
attribute [local go_sem] Oper.semAt_some

set_option maxHeartbeats 400000 in
theorem made_any (p : Nat) (w : World) :
    Calls Tryz.prog 56 #[.pointer (some ⟨p, 0, none⟩)] w fun e w' => e = .returned (.pointer (some ⟨p, 0, none⟩)) ∧ w' = w := by
  go_enter Tryz.func56, Tryz.ntmps56
  go_wp2
  go_ret
  exact ⟨rfl, rfl⟩

set_option maxHeartbeats 400000 in
theorem fieldsC_any (a : Option Addr) (name : ByteArray) (w : World) :
    Calls Tryz.prog 42 #[.pointer a, .string name] w fun e w' => e = .returned (.func (.func 65) #[] #[.pointer (some ⟨w.heap.size, 0, none⟩), .pointer (some ⟨w.heap.size + 1, 0, none⟩)]) ∧ w' = (w.alloc (.cells #[.pointer a] 67)).alloc (.cells #[.string name] 9) := by
  go_enter Tryz.func42, Tryz.ntmps42
  go_wp2
  go_ret
  exact ⟨rfl, rfl⟩

theorem wpIn_noexit {F : Fence} {n : Nat} {P : Program} {c : Code} {K : Act → World → Prop} {Q' : Exit → Act → World → Prop} {a : Act} {w : World} (h : c.wpIn F n P (Exit.then K (fun _ _ _ => False)) a w) : c.wpIn F n P (Exit.then K Q') a w :=
  wpIn_mono h (fun e a' w' hq => by
    cases e with
    | normal => exact hq
    | exit id => exact hq.elim
    | goto l => exact hq.elim
    | ret => exact hq.elim
    | panic ch => exact hq.elim
    | outgrown => exact hq.elim)

theorem box3 (W : World) (a b c : Value) (t1 t2 t3 : TypeId) : (((W.alloc (.cells #[a] t1)).alloc (.cells #[b] t2)).alloc (.cells #[c] t3)).cell? ⟨W.heap.size, 0, none⟩ = some a ∧
    (((W.alloc (.cells #[a] t1)).alloc (.cells #[b] t2)).alloc (.cells #[c] t3)).cell? ⟨W.heap.size + 1, 0, none⟩ = some b ∧ (((W.alloc (.cells #[a] t1)).alloc (.cells #[b] t2)).alloc (.cells #[c] t3)).cell? ⟨W.heap.size + 1 + 1, 0, none⟩ = some c := by
  refine ⟨(((Boxed.new W t1 a).alloc _).alloc _).cell, ?_, ?_⟩
  · have := ((Boxed.new (W.alloc (.cells #[a] t1)) t2 b).alloc (.cells #[c] t3)).cell
    rw [World.size_alloc] at this
    exact this
  · have := (Boxed.new ((W.alloc (.cells #[a] t1)).alloc (.cells #[b] t2)) t3 c).cell
    rw [World.size_alloc, World.size_alloc] at this
    exact this

theorem FpOk.below {fp : World → Nat → Prop} {W W' : World} (h : FpOk fp W) (hb : Below W.heap.size W W') : FpOk fp W' where
  old X hX k hk := Nat.lt_of_lt_of_le (h.old X (hb.trans (hX.mono hb.size)) k hk) hb.size
  kept A B row hA := h.kept A B row (Nat.le_trans hb.size hA)

theorem keepL_from {fp : World → Nat → Prop} {B B' : Nat} {W W' : World} (h : KeepL fp B W W') (hB : B ≤ B') : KeepL fp B' W W' :=
  ⟨h.1, fun k o hk => h.2.1 k o (Nat.le_trans hB hk), h.2.2⟩
theorem keepsFrom_from {B B' : Nat} {W W' : World} (h : KeepsFrom B W W') (hB : B ≤ B') : KeepsFrom B' W W' :=
  ⟨h.size, fun k o hk => h.same k o (Nat.le_trans hB hk)⟩
theorem ownFrom_up {β : Type} {B B' : Nat} {I : β → World → Prop} (h : OwnFrom B I) (hB : B ≤ B') : OwnFrom B' I := fun s X Y row hs hg hr =>
  h s X Y row hs hg (fun r e => ⟨Nat.le_trans hB (hr r e).1, (hr r e).2⟩)

/-- what a round must do, whichever way it is called: e.g. 'yield' of a loop, or a function's value -/
def RoundOk (J Jx : List Reg → World → Prop) (fp : World → Nat → Prop) (B : Nat) (pre : List Reg) (x : Reg) (W1 : World) (e : Ending) (W' : World) : Prop :=
  (e = .returned (.bool true) ∧ J (pre ++ [x]) W' ∧ KeepL fp B W1 W' ∧ KeepsFrom B W1 W') ∨ (e = .returned (.bool false) ∧ Jx (pre ++ [x]) W' ∧ KeepsFrom B W1 W')

/-- the value that is called, and that its rounds are well -/
def YieldOk (Yf : Fn) (Yc : Array Value) (J Jx : List Reg → World → Prop) (fp : World → Nat → Prop) (B N : Nat) : Prop :=
  (∃ lp, Yf = .yield lp ∧ Yc = #[] ∧ ∀ m pre x W1, J pre W1 → pre.length < N → YieldAt Fence.wide m Tryz.prog lp #[.string x.f, .string x.v] W1 (RoundOk J Jx fp B pre x W1)) ∨
  (∃ q0 q1 q2 q3, Yf = .func 43 ∧ Yc = #[.pointer (some q0), .pointer (some q1), .pointer (some q2), .pointer (some q3)] ∧ ∀ pre x W1, J pre W1 → pre.length < N → Calls Tryz.prog 43 #[.string x.f, .string x.v, .pointer (some q0), .pointer (some q1), .pointer (some q2), .pointer (some q3)] W1 (RoundOk J Jx fp B pre x W1))

set_option maxRecDepth 100000 in
set_option maxHeartbeats 2000000 in
theorem fields1_any (Yf : Fn) (Yc : Array Value) (m : Nat) (hm : 8 ≤ m) (rb nbx p n M : Nat) (v : Value) (nb : ByteArray → Nat) (l : List Reg) (name : ByteArray) (W : World) (hv : ∃ r, v = .map r) (c1 : W.cell? ⟨rb, 0, none⟩ = some (.pointer (some ⟨p, 0, none⟩))) (c2 : W.cell? ⟨nbx, 0, none⟩ = some (.string name)) (hc : W.cell? ⟨p, 1, none⟩ = some v)
    (hB : BookAt W v M nb l n) (hS : SortedB l) (hs : name.size ≤ maxLen) (hn : n ≤ 100000) (hll : l.length ≤ 100000) (fp : World → Nat → Prop) (hfp : FpOk fp W) (J Jx : List Reg → World → Prop) (hJ : OwnFrom W.heap.size J) (hJx : OwnFrom W.heap.size Jx) (h0 : J [] W) (hY : YieldOk Yf Yc J Jx fp W.heap.size (fieldsL l name).length) :
    CallsIn Fence.wide m Tryz.prog 65 #[.func Yf #[] Yc, .pointer (some ⟨rb, 0, none⟩), .pointer (some ⟨nbx, 0, none⟩)] W fun e W' => (∃ v, e = .returned v) ∧ (J (fieldsL l name) W' ∨ ∃ k, 0 < k ∧ Jx ((fieldsL l name).take k) W') := by
  obtain ⟨r0, rfl⟩ := hv
  have lt_of : ∀ {q j : Nat} {u : Value}, W.cell? ⟨q, j, none⟩ = some u → q < W.heap.size := fun {q j u} h => by
    rcases Nat.lt_or_ge q W.heap.size with h' | h'
    · exact h'
    · simp [World.cell?, Array.getElem?_eq_none h'] at h
  have l1 := lt_of c1
  have l2 := lt_of c2
  have l3 := lt_of hc
  obtain ⟨F, hF⟩ : ∃ F, fieldsL l name = F := ⟨_, rfl⟩
  rw [hF] at hY ⊢
  refine callsIn_of_wp_marks Tryz.func65 rfl trivial ?_ rfl
  simp only [Tryz.ntmps65, List.size_toArray, List.length_cons, List.length_nil, Nat.reduceAdd, Nat.reduceSub, Array.replicate_succ, Array.replicate_zero, List.push_toArray, List.append_toArray, List.nil_append, List.cons_append]
  gi_wp2
  gi_cut [10] from 19 (fun s10 wd => ∃ B0, s10 = .func (.func 80) #[] #[.pointer (some ⟨B0, 0, none⟩), .pointer (some ⟨B0 + 1, 0, none⟩)] ∧ wd.cell? ⟨B0, 0, none⟩ = some (.pointer (some ⟨p, 1, none⟩)) ∧ wd.cell? ⟨B0 + 1, 0, none⟩ = some (.string name) ∧ wd.cell? ⟨W.heap.size, 0, none⟩ = some (.func Yf #[] Yc) ∧ Below W.heap.size W wd ∧ W.heap.size < wd.heap.size ∧ W.grownBy wd none)
  case first =>
    clear hY hJ hJx h0 hfp hB
    have d1 : (W.alloc (.cells #[.func Yf #[] Yc] 90)).drew.cell? ⟨rb, 0, none⟩ = some (.pointer (some ⟨p, 0, none⟩)) := by simp [World.cell?_alloc_lt _ _ ⟨rb, 0, none⟩ l1, c1]
    have d2 : (W.alloc (.cells #[.func Yf #[] Yc] 90)).drew.cell? ⟨nbx, 0, none⟩ = some (.string name) := by simp [World.cell?_alloc_lt _ _ ⟨nbx, 0, none⟩ l2, c2]
    refine wpIn_noexit ?_
    gi_region_with (first | (refine ⟨trivial, fun _ => by omega, ?_⟩; refine (callsIn_wide.2 (made_any p _)).mono ?_; rintro e w' ⟨rfl, rfl⟩) | (refine ⟨trivial, fun _ => by omega, ?_⟩; refine (callsIn_wide.2 (seenM_any (some ⟨p, 1, none⟩) name _)).mono ?_; rintro e w' ⟨rfl, rfl⟩))
    all_goals gi_wp2
    all_goals gi_meet
    all_goals
      have hb : Below W.heap.size W (((W.alloc (.cells #[.func Yf #[] Yc] 90)).alloc (.cells #[.pointer (some ⟨p, 1, none⟩)] 146)).alloc (.cells #[.string name] 9)).drew := ((((Below.refl _ W).alloc (Nat.le_refl _) _).alloc (by simp) _).alloc (by simp; omega) _).drew
      obtain ⟨b1, b2, b3⟩ := box3 W (.func Yf #[] Yc) (.pointer (some ⟨p, 1, none⟩)) (.string name) 90 146 9
      exact ⟨W.heap.size + 1, rfl, b2, b3, b1, hb, by simp; omega, below_grown hb⟩
  case rest =>
    obtain ⟨B0, rfl, e1, e2, e3, hb, hlt, hgr⟩ := hcut
    have hfpd := hfp.below hb
    have hnf0 : ¬ fp wc W.heap.size := fun h => by
      have := hfp.old _ (Below.refl _ _) _ (hfp.kept _ _ none (Nat.le_refl _) hgr (fun r e => by cases e) _ h)
      omega
    have hcd : wc.cell? ⟨p, 1, none⟩ = some (.map r0) := (hb.cell (p := ⟨p, 1, none⟩) l3).trans hc
    have hseq := Seen1_stops (m - 1) (by omega) B0 (B0 + 1) p 1 n M (.map r0) nb l name wc ⟨r0, rfl⟩ e1 e2 hcd (hB.below hb) hS hs hn hll fp hfpd
    clear hB hc c1 c2 hcd e1 e2
    rw [hF] at hseq
    clear hF
    have hJ0 : J [] wc := hJ _ _ _ none h0 hgr (fun r e => by cases e)
    have hle := hb.size
    gi_wp2
    refine wpIn_rangeFunc_ownH rfl (by omega) (gf := 80) (lb := #[.pointer (some ⟨B0, 0, none⟩), .pointer (some ⟨B0 + 1, 0, none⟩)]) rfl trivial (enters_of Tryz.func80 (by kernel_rfl) rfl)
      hseq (fun h k => KeepL.trans h k) (fun X lq o o' hl h hc _ => keepL_b hfpd X lq o o' (by have := (Array.getElem?_eq_some_iff.1 h).1; omega) h hc) (Below.refl _ _) (fun _ => rfl)
      (fun pre X => J pre X ∧ X.cell? ⟨W.heap.size, 0, none⟩ = some (.func Yf #[] Yc) ∧ ¬ fp X W.heap.size ∧ wc.heap.size ≤ X.heap.size)
      (fun c pre X => c = .ret ∧ Jx pre X)
      (fun s A B row hs hg hr => ⟨ownFrom_up hJ hle s A B row hs.1 hg hr, cell_kept hs.2.1 hg (fun r e => (hr r e).2), fun h => hs.2.2.1 (hfp.kept _ _ row (by omega) hg (fun r e => (hr r e).2) _ h), Nat.le_trans hs.2.2.2 hg.size⟩)
      (fun c s A B row hs hg hr => ⟨hs.1, ownFrom_up hJx hle s A B row hs.2 hg hr⟩)
      ⟨hJ0, e3, hnf0, Nat.le_refl _⟩
      (fun x a' X => ∃ Bx, wc.heap.size ≤ Bx ∧ five X Bx x ∧ a' = { tmps := #[.func Yf #[] Yc, .pointer (some ⟨rb, 0, none⟩), .pointer (some ⟨nbx, 0, none⟩), .pointer (some ⟨W.heap.size, 0, none⟩), .pointer (some ⟨Bx, 0, none⟩), u5, u6, u7, u8, u9, .func (.func 80) #[] #[.pointer (some ⟨B0, 0, none⟩), .pointer (some ⟨B0 + 1, 0, none⟩)], .agg #[.string x.n, .string x.f, .int .i64 x.c, .int .i64 x.r, .string x.v], undef, undef, undef, undef, undef, undef, undef], defers := [] })
      (fun x a' => Own.from (fun s A B row hs hg hr => by obtain ⟨Bx, h1, h2, h3⟩ := hs; exact ⟨Bx, h1, five_own h2 hg hr, h3⟩) _)
      ?assign ?body ?done ?stop
    case assign =>
      rintro lq pre x X K ⟨h1, h2, h3, h4⟩ hK
      gi_wp2
      have hg := World.grownBy_alloc X (.cells #[.string x.n, .string x.f, .int .i64 x.c, .int .i64 x.r, .string x.v] 99) none
      refine hK _ _ ((KeepsOthers.alloc _ _).from _) (keepL_alloc hfpd _ _ h4) ⟨hJ _ _ _ none h1 hg (fun r e => by cases e), cell_kept h2 hg (fun r e => by cases e), fun h => h3 (hfp.kept _ _ none (by omega) hg (fun r e => by cases e) _ h), by simp; omega⟩ ?_
      exact ⟨X.heap.size, h4, ⟨by simp, by simp, by simp, by simp, by simp⟩, rfl⟩
    case body =>
      rintro lq pre x a' X hlq ⟨r, hr⟩ ⟨h1, h2, h3, h4⟩ ⟨Bx, hBx, hf, rfl⟩ hlen
      obtain ⟨z0, z1, z2, z3, z4⟩ := hf
      rcases hY with ⟨lp, rfl, rfl, hY⟩ | ⟨q0, q1, q2, q3, rfl, rfl, hY⟩
      · obtain ⟨fn, tmps, assign, body, hy, hR⟩ := hY (m - 1 - 1 - 1) pre x X h1 hlen
        clear hY hseq hJ hJx h0 hJ0 hfp hfpd hb hgr
        have hR' : RoundIn (Fence.wide.inRound lq) (m - 1 - 1 - 1) Tryz.prog lp fn tmps assign body X (RoundOk J Jx fp W.heap.size pre x X) := hR
        clear hR
        gi_wp2
        refine ⟨fun _ => by omega, ?_⟩
        refine hR'.mono ?_
        rintro e X5 (⟨rfl, hJ5, hk5, hf5⟩ | ⟨rfl, hx5, hf5⟩)
        · have d2 := hk5.cell (Nat.le_refl _) h3 h2
          have d3 : ¬ fp X5 W.heap.size := fun h => by
            rcases hk5.2.2 _ h with h' | h'
            · exact h3 h'
            · omega
          have d4 := hk5.1
          gi_wp2
          exact ⟨keepsFrom_from hf5 hle, keepL_from hk5 hle, hJ5, d2, d3, by omega⟩
        · gi_wp2
          exact ⟨keepsFrom_from hf5 hle, rfl, hx5⟩
      · have hR := hY pre x X h1 hlen
        clear hY hseq hJ hJx h0 hJ0 hb hgr
        gi_wp2
        refine ⟨trivial, fun _ => by omega, ?_⟩
        refine (CallsIn.inRound lq (callsIn_wide.2 hR)).mono ?_
        rintro e X5 (⟨rfl, hJ5, hk5, hf5⟩ | ⟨rfl, hx5, hf5⟩)
        · have d2 := hk5.cell (Nat.le_refl _) h3 h2
          have d3 : ¬ fp X5 W.heap.size := fun h => by
            rcases hk5.2.2 _ h with h' | h'
            · exact h3 h'
            · omega
          have d4 := hk5.1
          gi_wp2
          exact ⟨keepsFrom_from hf5 hle, keepL_from hk5 hle, hJ5, d2, d3, by omega⟩
        · gi_wp2
          exact ⟨keepsFrom_from hf5 hle, rfl, hx5⟩
    case done =>
      rintro D ys X hD rfl ⟨h1, h2, h3, h4⟩ hK
      gi_wp2
      refine ⟨by simp, .inl ⟨_, _, rfl, run_takeDeferred hK, ?_⟩⟩
      have := hJ.putObj (.deferred none) h1 (by omega) hK rfl
      refine ⟨.tuple #[], ?_, ⟨_, rfl⟩, .inl this⟩
      simp [results, Tryz.f65, go_sem]
    case stop =>
      rintro D c pre X hD ⟨hpre, k, rfl⟩ ⟨rfl, h1⟩ hK
      gi_wp2
      refine ⟨by simp, .inl ⟨_, _, rfl, run_takeDeferred hK, ?_⟩⟩
      have := hJx.putObj (.deferred none) h1 (by omega) hK rfl
      refine ⟨.tuple #[], ?_, ⟨_, rfl⟩, .inr ⟨k, ?_, this⟩⟩
      · simp [results, Tryz.f65, go_sem]
      · rcases Nat.eq_zero_or_pos k with e | e
        · subst e; simp at hpre
        · exact e
end Go.Proofs.YtdfafhclhfijnaaGreatDoor
