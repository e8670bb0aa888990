import Derived.Test.YtdfafhclhfijnaaGreatDoorI1
namespace Go.Proofs.YtdfafhclhfijnaaGreatDoor
open Go.RowKit Go.Maps Go.Shelf
attribute [local go_sem] Oper.semAt_some

theorem fieldsL_noName {l : List Reg} {name : ByteArray} (h : hasN l name = false) : fieldsL l name = [] := by
  rw [fieldsL, List.filter_eq_nil_iff]
  intro y hy hs
  have : hasN l name = true := hasN_iff.2 ⟨y, hy, seen_name hs⟩
  rw [h] at this; cases this

set_option maxRecDepth 100000 in
set_option maxHeartbeats 1000000 in
theorem seen1_nil (m : Nat) (cb : Nat) (l : List Reg) (name : ByteArray) (w : World) (hcb : w.cell? ⟨cb, 0, none⟩ = some (.map none)) (hn : hasN l name = false) (fp : World → Nat → Prop) (B N : Nat) :
    SeqStopsK Fence.wide m Tryz.prog 89 #[.pointer (some ⟨cb, 0, none⟩)] (fun x : Reg => #[Value.agg #[.string x.n, .string x.f, .int .i64 x.c, .int .i64 x.r, .string x.v]]) (KeepC fp B)
      (fun xs => xs.Perm (fieldsL l name)) (fun pre => pre ≠ [] ∧ ∀ y ∈ pre, y ∈ fieldsL l name) N w := fun lp J Jx W hW hJ hJx hY h0 => by
  have hcl : cb < w.heap.size := by
    rcases Nat.lt_or_ge cb w.heap.size with h | h
    · exact h
    · simp [World.cell?, Array.getElem?_eq_none h] at hcb
  have hcW : W.cell? ⟨cb, 0, none⟩ = some (.map none) := (hW.cell (p := ⟨cb, 0, none⟩) hcl).trans hcb
  have hclW : cb < W.heap.size := Nat.lt_of_lt_of_le hcl hW.size
  have hcA : ∀ o, (W.alloc o).cell? ⟨cb, 0, none⟩ = some (.map none) := fun o => by rw [World.cell?_alloc_lt _ _ ⟨cb, 0, none⟩ hclW]; exact hcW
  have e0 := Maps.look_nil (w := W) (P := Tryz.prog) true strLaw Tryz.underlying149 (zeroReg_run W) (keyOf_s (s := ⟨#[]⟩) (by unfold maxLen; decide))
  simp only [if_true] at e0
  have hrg := fun w' => run_range_nilMap (P := Tryz.prog) w' 149 9 99 Tryz.underlying149
  have hnx := fun ty => run_next_nilMap (P := Tryz.prog) (W.alloc (.cells #[.string ⟨#[]⟩, .string ⟨#[]⟩, .int .i64 0, .int .i64 0, .string ⟨#[]⟩] 99)) ty 0 0 #[]
  simp only [World.size_alloc] at hnx
  have HJ : Hid (∀ o1 o2, J [] ((W.alloc o1).alloc o2)) := fun o1 o2 => hJ _ _ _ none (hJ _ _ _ none h0 (World.grownBy_alloc W o1 none) (fun r e => by cases e)) (World.grownBy_alloc _ o2 none) (fun r e => by cases e)
  clear hY hJ hJx h0
  refine callsIn_wide.2 ?_
  show Calls Tryz.prog 89 #[.func (.yield lp) #[] #[], .pointer (some ⟨cb, 0, none⟩)] W _
  go_enter Tryz.func89, Tryz.ntmps89
  go_wp2
  refine wp_loop_rounds 1 ?_
  rw [rounds_succ]
  go_wp2
  go_end0
  exact ⟨⟨_, rfl⟩, .inl ⟨[], by rw [fieldsL_noName hn], HJ.out _ _⟩⟩

/-- b.contacts[name].seen(), as an iterator, whatever the book -/
theorem seen1_any (m : Nat) (hm : 2 ≤ m) (cb n : Nat) (v : Value) (M : Nat) (nb : ByteArray → Nat) (l : List Reg) (name : ByteArray) (w : World) (hB : BookAt w v M nb l n) (hS : SortedB l) (hcb : w.cell? ⟨cb, 0, none⟩ = some (conV l nb name)) (fp : World → Nat → Prop) (hfp : FpOk fp w) :
    SeqStopsK Fence.wide m Tryz.prog 89 #[.pointer (some ⟨cb, 0, none⟩)] (fun x : Reg => #[Value.agg #[.string x.n, .string x.f, .int .i64 x.c, .int .i64 x.r, .string x.v]]) (KeepC fp w.heap.size)
      (fun xs => xs.Perm (fieldsL l name)) (fun pre => pre ≠ [] ∧ ∀ y ∈ pre, y ∈ fieldsL l name) n w := by
  unfold conV at hcb
  cases hh : hasN l name
  · rw [hh] at hcb
    exact seen1_nil m cb l name w hcb hh _ _ _
  · rw [hh] at hcb
    rcases hB with ⟨rfl, rfl⟩ | ⟨rfl, h⟩
    · simp [hasN] at hh
    · exact seen1_stops m hm cb (nb name) n l name w hcb (h.2.1 name hh).1 hS fp hfp

set_option maxHeartbeats 400000 in
theorem seen_any (v : Value) (w : World) (hv : ∃ r, v = .map r) :
    Calls Tryz.prog 79 #[v] w fun e w' => e = .returned (.func (.func 89) #[] #[.pointer (some ⟨w.heap.size, 0, none⟩)]) ∧ w' = w.alloc (.cells #[v] 149) := by
  obtain ⟨r, rfl⟩ := hv
  go_enter Tryz.func79, Tryz.ntmps79
  go_wp2
  go_ret
  exact ⟨rfl, rfl⟩

theorem conV_map (l : List Reg) (nb : ByteArray → Nat) (s : ByteArray) : ∃ r, conV l nb s = .map r := by
  unfold conV
  split
  · exact ⟨_, rfl⟩
  · exact ⟨_, rfl⟩

theorem keepC_t {fp : World → Nat → Prop} {B : Nat} {A C D : World} (h : KeepC fp B A C) (k : KeepC fp B C D) : KeepC fp B A D := h.trans k
theorem keepL_b {fp : World → Nat → Prop} {w0 : World} (hfp : FpOk fp w0) {B : Nat} (W : World) (l : Nat) (o o' : Obj) (hW : w0.heap.size ≤ W.heap.size) (h : W.heap[l]? = some o) (hc : o.isCells = false) : KeepL fp B W (W.putObj l o') :=
  ⟨by simp [World.putObj], fun k o2 _ _ ho2 hc2 => by
    by_cases e : k = l
    · subst e
      rw [h] at ho2
      cases ho2
      rw [hc] at hc2; cases hc2
    · exact (World.putObj_heap_other e).trans ho2, fun k hk => .inl (hfp.kept _ _ (some l) hW (grownBy_putObj' W l o') (fun r e => by cases e; exact ⟨o, h, hc⟩) k hk)⟩
theorem keepC_b {fp : World → Nat → Prop} {w0 : World} (hfp : FpOk fp w0) {B : Nat} {n₀ : Nat} (hn : w0.heap.size ≤ n₀) (W : World) (l : Nat) (o o' : Obj) (hl : n₀ ≤ l) (h : W.heap[l]? = some o) (hc : o.isCells = false) (hw : o.isWalk = false) : KeepC fp B W (W.putObj l o') :=
  ⟨KeepsWalks.putObj _ h hw, keepL_b hfp W l o o' (by have := (Array.getElem?_eq_some_iff.1 h).1; omega) h hc⟩

set_option maxRecDepth 100000 in
set_option maxHeartbeats 2000000 in
theorem shows_any (p o M n : Nat) (v : Value) (nb : ByteArray → Nat) (l : List Reg) (name : ByteArray) (w : World) (hc : w.cell? ⟨p, o, none⟩ = some v) (hv : ∃ r, v = .map r) (hB : BookAt w v M nb l n) (hS : SortedB l) (hs : name.size ≤ maxLen) :
    Calls Tryz.prog 60 #[.pointer (some ⟨p, o, none⟩), .string name] w fun e w' => e = .returned (.bool (decide (0 < (fieldsL l name).length))) ∧ Below w.heap.size w w' := by
  have hpl : p < w.heap.size := by
    rcases Nat.lt_or_ge p w.heap.size with h | h
    · exact h
    · simp [World.cell?, Array.getElem?_eq_none h] at hc
  obtain ⟨r0, rfl⟩ := hv
  have hW0 : Below w.heap.size w (w.alloc (.cells #[.bool false] 4)) := (Below.refl _ _).alloc (Nat.le_refl _) _
  have e1 : (Instr.lookup 104 (.map r0) (.string name) false).run Tryz.prog (w.alloc (.cells #[.bool false] 4)) = .ok (conV l nb name) (w.alloc (.cells #[.bool false] 4)) := (hB.below hW0).contact hs
  obtain ⟨r1, hr1⟩ := conV_map l nb name
  have hcA : ∀ ob, (w.alloc ob).cell? ⟨p, o, none⟩ = some (.map r0) := fun ob => by rw [World.cell?_alloc_lt _ _ ⟨p, o, none⟩ hpl]; exact hc
  refine (callsIn_wide (n := 5)).1 ?_
  refine callsIn_of_wp_marks Tryz.func60 rfl trivial ?_ rfl
  simp only [Tryz.ntmps60, List.size_toArray, List.length_cons, List.length_nil, Nat.reduceAdd, Nat.reduceSub, Array.replicate_succ, Array.replicate_zero, List.push_toArray, List.append_toArray, List.nil_append, List.cons_append]
  rw [hr1] at e1
  gi_wp2_with (refine ⟨trivial, ?_⟩; gi_at_call 79; refine (callsIn_wide.2 (seen_any (.map r1) _ ⟨r1, rfl⟩)).mono ?_; rintro e w' ⟨rfl, rfl⟩)
  have hW1 : Below w.heap.size w ((w.alloc (.cells #[.bool false] 4)).alloc (.cells #[.map r1] 149)) := hW0.alloc (by simp) _
  obtain ⟨W0, hW0e⟩ : ∃ W0, (w.alloc (.cells #[.bool false] 4)).alloc (.cells #[.map r1] 149) = W0 := ⟨_, rfl⟩
  have hsz : W0.heap.size = w.heap.size + 2 := by rw [← hW0e]; simp
  have hres : W0.cell? ⟨w.heap.size, 0, none⟩ = some (.bool false) := by rw [← hW0e]; simp
  have hrf : W0.frozen? ⟨w.heap.size, 0, none⟩ = false := by rw [← hW0e]; simp
  have hbox : W0.cell? ⟨w.heap.size + 1, 0, none⟩ = some (conV l nb name) := by rw [← hW0e, hr1]; simp
  rw [hW0e] at hW1 ⊢
  have hseq := seen1_any 4 (by omega) (w.heap.size + 1) n (.map r0) M nb l name W0 (hB.below hW1) hS hbox noFp (noFp_ok _)
  refine wpIn_rangeFunc_ownF rfl (by omega) (gf := 89) (lb := #[.pointer (some ⟨w.heap.size + 1, 0, none⟩)]) rfl trivial (enters_of Tryz.func89 (by kernel_rfl) rfl)
    hseq keepC_t (keepC_b (noFp_ok W0) (Nat.le_refl _)) (Below.refl _ _) (fun _ => rfl)
    (fun pre W => (pre = [] ∧ W.cell? ⟨w.heap.size, 0, none⟩ = some (.bool false) ∧ W.frozen? ⟨w.heap.size, 0, none⟩ = false) ∧ Below w.heap.size w W)
    (fun c pre W => (c = .ret ∧ W.cell? ⟨w.heap.size, 0, none⟩ = some (.bool true)) ∧ Below w.heap.size w W)
    (OwnFrom.and (Own.from (fun s A B row hs hg hr => ⟨hs.1, cell_kept hs.2.1 hg hr, (frozen_kept hs.2.1 hg hr).trans hs.2.2⟩) _) (ownFrom_below (Nat.le_refl _) (by rw [hsz]; omega)))
    (fun c => OwnFrom.and (Own.from (fun s A B row hs hg hr => ⟨hs.1, cell_kept hs.2 hg hr⟩) _) (ownFrom_below (Nat.le_refl _) (by rw [hsz]; omega)))
    ⟨⟨rfl, hres, hrf⟩, hW1⟩
    (fun x => { tmps := #[.pointer (some ⟨p, o, none⟩), .string name, undef, undef, .pointer (some ⟨w.heap.size, 0, none⟩), .pointer (some ⟨p, o, none⟩), .pointer (some ⟨p, o, none⟩), .pointer (some ⟨p, o, none⟩), .map r0, .string name, .map r1, .func (.func 89) #[] #[.pointer (some ⟨w.heap.size + 1, 0, none⟩)], .agg #[.string x.n, .string x.f, .int .i64 x.c, .int .i64 x.r, .string x.v]], defers := [] }) ?assign ?body ?done ?stop
  case assign =>
    intro lq x W K hK
    gi_wp2
    simpa using hK
  case body =>
    rintro lq pre x W ⟨⟨hp, hcr, hfr⟩, hB⟩ _
    gi_wp2
    exact ⟨KeepsOthers.setCell _ _ _, ⟨rfl, World.cell?_setCell_same' _ _ _ (by rw [hcr]; rfl)⟩, hB.setCell (p := ⟨w.heap.size, 0, none⟩) (by simp) _⟩
  case done =>
    rintro D ys W hD hS2 ⟨⟨rfl, hcr, hfr⟩, hB⟩ hK
    have hF : fieldsL l name = [] := List.Perm.nil_eq hS2 |>.symm
    gi_wp2
    have hK' := (KeepsOthers.setCell W ⟨w.heap.size, 0, none⟩ (.bool false)).same D _ hK rfl
    refine ⟨by simp, .inl ⟨_, _, rfl, run_takeDeferred hK', ?_⟩⟩
    have hc5 := cell_kept (World.cell?_setCell_same' W ⟨w.heap.size, 0, none⟩ (.bool false) (by rw [hcr]; rfl)) (grownBy_putObj' _ D (.deferred none)) (fun r e => by cases e; exact ⟨_, hK', rfl⟩)
    refine ⟨.bool false, ?_, by rw [hF]; rfl, (hB.setCell (p := ⟨w.heap.size, 0, none⟩) (by simp) _).trans (belowK_b (w := w) (Nat.le_refl _) _ D _ _ (by omega) hK' rfl rfl)⟩
    simp [results, Tryz.f60, go_sem, hc5]
  case stop =>
    rintro D c pre W hD ⟨hpre, hsub⟩ ⟨⟨rfl, hcr⟩, hB⟩ hK
    have hF : 0 < (fieldsL l name).length := by
      cases pre with
      | nil => exact absurd rfl hpre
      | cons y r => exact List.length_pos_of_mem (hsub y (by simp))
    gi_wp2
    refine ⟨by simp, .inl ⟨_, _, rfl, run_takeDeferred hK, ?_⟩⟩
    have hc5 := cell_kept hcr (grownBy_putObj' _ D (.deferred none)) (fun r e => by cases e; exact ⟨_, hK, rfl⟩)
    refine ⟨.bool true, ?_, by rw [decide_eq_true hF], hB.trans (belowK_b (w := w) (Nat.le_refl _) W D _ _ (by omega) hK rfl rfl)⟩
    simp [results, Tryz.f60, go_sem, hc5]
end Go.Proofs.YtdfafhclhfijnaaGreatDoor
