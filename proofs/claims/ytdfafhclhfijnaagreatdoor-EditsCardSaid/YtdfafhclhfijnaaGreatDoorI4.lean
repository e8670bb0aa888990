import Derived.Maps.OwnIn
import Derived.Test.YtdfafhclhfijnaaGreatDoorI3
import Derived.Test.YtdfafhclhfijnaaGreatDoorB7
namespace Go.Proofs.YtdfafhclhfijnaaGreatDoor
open Go.RowKit Go.Maps Go.Shelf Go.Lib Go.Extern
attribute [local go_sem] Oper.semAt_some

theorem Tryz.infoApi : (Tryz.prog.info? 99).map (fun i => (i.zero, i.size, i.bytes)) = some (some (.agg #[.string ByteArray.empty, .string ByteArray.empty, .int .i64 0, .int .i64 0, .string ByteArray.empty]), 5, 64) := by kernel_rfl

/-- the blocks of a round that appends to the slice in box Bs -/
def fpBox (Bs : Nat) (W : World) (k : Nat) : Prop := k = Bs ∨ ∀ v, W.cell? ⟨Bs, 0, none⟩ = some v → v.ownBlock = some k

theorem fpBox_ok {Bs : Nat} {w : World} {t : TypeId} (h : Boxed w Bs t (.slice none 0 0)) : FpOk (fpBox Bs) w where
  old W hW k hk := by
    have hlt := h.lt
    rcases hk with rfl | hk
    · exact hlt
    · have hc : W.cell? ⟨Bs, 0, none⟩ = some (.slice none 0 0) := (hW.cell (p := ⟨Bs, 0, none⟩) hlt).trans h.cell
      have := hk _ hc
      simp [Value.ownBlock] at this
  kept A B row hA hg hr k hk := by
    have hlt := h.lt
    rcases hk with rfl | hk
    · exact .inl rfl
    · refine .inr fun v hv => hk v ?_
      refine cell_kept hv hg hr

theorem keepC_appended {W w1 : World} {Bs B : Nat} {t : TypeId} {v v' : Value} {tmp : Obj} (hv : Boxed W Bs t v) (hk : KeepsOthers W (w1.setCell ⟨Bs, 0, none⟩ v')) (hgrow : (W.alloc tmp).grownBy w1 v.ownBlock)
    (hv2 : Boxed (w1.setCell ⟨Bs, 0, none⟩ v') Bs t v') (hob : v'.ownBlock = v.ownBlock ∨ v'.ownBlock = some (W.alloc tmp).heap.size) : KeepC (fpBox Bs) B W (w1.setCell ⟨Bs, 0, none⟩ v') := by
  refine ⟨hk.walks, hk.size, fun k o _ hf ho _ => ?_, fun k hf => ?_⟩
  · have hlt := (Array.getElem?_eq_some_iff.1 ho).1
    have h1 : k ≠ Bs := fun e => hf (.inl e)
    have h2 : some k ≠ v.ownBlock := fun e => hf (.inr fun u hu => by
      rw [hv.cell] at hu; cases hu; exact e.symm)
    rw [Below.heap_setCell _ _ _ k (fun e => h1 e), hgrow.block k (by simp; omega) h2, Below.heap_alloc _ _ _ hlt]
    exact ho
  · rcases hf with rfl | hf
    · exact .inl (.inl rfl)
    · have := hf _ hv2.cell
      rcases hob with e | e
      · exact .inl (.inr fun u hu => by rw [hv.cell] at hu; cases hu; rw [← e]; exact this)
      · rw [e] at this; cases this
        exact .inr (by simp)

theorem keepL_alloc {fp : World → Nat → Prop} {w0 : World} (hfp : FpOk fp w0) {B : Nat} (W : World) (o : Obj) (hW : w0.heap.size ≤ W.heap.size) : KeepL fp B W (W.alloc o) :=
  ⟨by simp, fun k o2 _ _ ho2 _ => by rw [Below.heap_alloc _ _ _ (Array.getElem?_eq_some_iff.1 ho2).1]; exact ho2, fun k hk => .inl (hfp.kept _ _ none hW (World.grownBy_alloc W o none) (fun r e => by cases e) k hk)⟩

theorem five_own {w : World} {b : Nat} {x : Reg} (h : five w b x) {w' : World} {row : Option Nat} (hg : w.grownBy w' row) (hr : ∀ r, row = some r → ∃ o : Obj, w.heap[r]? = some o ∧ o.isCells = false) : five w' b x := by
  obtain ⟨h0, h1, h2, h3, h4⟩ := h
  exact ⟨cell_kept h0 hg hr, cell_kept h1 hg hr, cell_kept h2 hg hr, cell_kept h3 hg hr, cell_kept h4 hg hr⟩

set_option maxRecDepth 100000 in
set_option maxHeartbeats 2000000 in
theorem appendSeq_any (cb n : Nat) (v : Value) (M : Nat) (nb : ByteArray → Nat) (l : List Reg) (name : ByteArray) (w : World) (hB : BookAt w v M nb l n) (hS : SortedB l) (hcb : w.cell? ⟨cb, 0, none⟩ = some (conV l nb name)) (hn : n ≤ 100000) :
    Calls Tryz.prog 96 #[.slice none 0 0, .func (.func 89) #[] #[.pointer (some ⟨cb, 0, none⟩)]] w
      fun e w' => ∃ (xs : List Reg) (rv : Value), e = .returned rv ∧ xs.Perm (fieldsL l name) ∧ w'.ownsRow w.heap.size 99 5 rv xs.length (rowCells xs) ∧ (rv = .slice none 0 0 ↔ xs = []) ∧ Below w.heap.size w w' := by
  have hcl : cb < w.heap.size := by
    rcases Nat.lt_or_ge cb w.heap.size with h | h
    · exact h
    · simp [World.cell?, Array.getElem?_eq_none h] at hcb
  obtain ⟨i0, hi, hz0, hz1, hz2⟩ := info_parts Tryz.infoApi
  refine (callsIn_wide (n := 5)).1 ?_
  refine callsIn_of_wp_marks Tryz.func96 rfl trivial ?_ rfl
  simp only [Tryz.ntmps96, List.size_toArray, List.length_cons, List.length_nil, Nat.reduceAdd, Nat.reduceSub, Array.replicate_succ, Array.replicate_zero, List.push_toArray, List.append_toArray, List.nil_append, List.cons_append]
  gi_wp2
  have hbx : Boxed (w.alloc (.cells #[.slice none 0 0] 93)) w.heap.size 93 (.slice none 0 0) := Boxed.new w _ _
  have hW1 : Below w.heap.size w (w.alloc (.cells #[.slice none 0 0] 93)) := (Below.refl _ _).alloc (Nat.le_refl _) _
  have hcb0 : (w.alloc (.cells #[.slice none 0 0] 93)).cell? ⟨cb, 0, none⟩ = some (conV l nb name) := by rw [World.cell?_alloc_lt _ _ ⟨cb, 0, none⟩ hcl]; exact hcb
  obtain ⟨W0, hW0⟩ : ∃ W0, w.alloc (.cells #[.slice none 0 0] 93) = W0 := ⟨_, rfl⟩
  have hsz : W0.heap.size = w.heap.size + 1 := by rw [← hW0]; simp
  rw [hW0] at hbx hW1 hcb0 ⊢
  have hfp := fpBox_ok hbx
  have hseq := seen1_any 4 (by omega) cb n v M nb l name W0 (hB.below hW1) hS hcb0 (fpBox w.heap.size) hfp
  refine wpIn_rangeFunc_ownH rfl (by omega) (gf := 89) (lb := #[.pointer (some ⟨cb, 0, none⟩)]) rfl trivial (enters_of Tryz.func89 (by kernel_rfl) rfl)
    hseq keepC_t (keepC_b hfp (Nat.le_refl _)) (Below.refl _ _) (fun _ => rfl)
    (fun pre W => (∃ rv, Boxed W w.heap.size 93 rv ∧ W.ownsRow w.heap.size 99 5 rv pre.length (rowCells pre) ∧ (rv = .slice none 0 0 ↔ pre = [])) ∧ Below w.heap.size w W)
    (fun _ _ _ => False)
    (OwnFrom.and (Own.from (holdsRow_own w.heap.size w.heap.size 93 99 5 (fun pre => pre.length) (fun pre => rowCells pre) (fun pre rv => rv = .slice none 0 0 ↔ pre = [])) _) (ownFrom_below (Nat.le_refl _) (by omega)))
    (fun c => Own.from (fun s A B row hs hg hr => hs) _)
    ⟨⟨_, hbx, World.ownsRow_nil _ _ _ _, by simp⟩, hW1⟩
    (fun x a' W => ∃ Bx, W0.heap.size ≤ Bx ∧ five W Bx x ∧ a' = { tmps := #[.slice none 0 0, .func (.func 89) #[] #[.pointer (some ⟨cb, 0, none⟩)], .pointer (some ⟨w.heap.size, 0, none⟩), undef, .slice none 0 0, .pointer (some ⟨Bx, 0, none⟩), .func (.func 89) #[] #[.pointer (some ⟨cb, 0, none⟩)], .agg #[.string x.n, .string x.f, .int .i64 x.c, .int .i64 x.r, .string x.v], undef, undef, undef, undef, undef], defers := [] })
    (fun x a' => Own.from (fun s A B row hs hg hr => by obtain ⟨Bx, h1, h2, h3⟩ := hs; exact ⟨Bx, h1, five_own h2 hg hr, h3⟩) _)
    ?assign ?body ?done ?stop
  case assign =>
    rintro lq pre x W K ⟨⟨rv, hb, hr, hnil⟩, hBl⟩ hK
    have hs2 := hBl.size
    gi_wp2
    refine hK _ _ ((KeepsOthers.alloc _ _).from _) ?_ ?_ ?_
    · exact ⟨KeepsWalks.alloc _ _, keepL_alloc hfp _ _ (by have := hb.lt; omega)⟩
    · exact ⟨⟨rv, hb.alloc _, hr.alloc _, hnil⟩, hBl.alloc hs2 _⟩
    · exact ⟨W.heap.size, by have := (Array.getElem?_eq_some_iff.1 hb).1; omega, ⟨by simp, by simp, by simp, by simp, by simp⟩, rfl⟩
  case body =>
    rintro lq pre x a' W hlq ⟨r, hr⟩ ⟨⟨rv, hb, hrow, hnil⟩, hBl⟩ ⟨Bx, hBx, hf, rfl⟩ hlen
    obtain ⟨z0, z1, z2, z3, z4⟩ := hf
    have hc := hb.cell
    have hBs := hBl.size

    gi_wp2_with (gi_at_builtin; go_must (refine wpListIn_append_own_at _ rfl _ _ 93 rfl w.heap.size 99 i0 _ 5 64 Tryz.underlying93 hi hz0 hz1 hz2 rfl (by decide) _ _ _ rfl (hrow.alloc _) ⟨W.heap.size, 0, none⟩ 1 1 x.cells rfl rfl (news_new W x.cells _) (cells_one x) (by unfold maxLen; omega) (by omega) (by simp; omega) ?_); intro v' w1 hown' hgrow _ hob; obtain ⟨g', cap', rfl⟩ := ownsRow_succ hown'; obtain ⟨hv1, hv2, hr2, hk2, hb2⟩ := hb.appended (by decide) hrow hBl.size (Nat.le_refl _) hown' hgrow; have hc1 := hv1.cell; have hf1 := hv1.frozen)
    refine ⟨hk2.from _, keepC_appended hb hk2 hgrow hv2 hob, ⟨_, hv2, ?_, by simp⟩, hBl.trans hb2⟩
    rw [rowCells_append, List.length_append]
    exact hr2
  case done =>
    rintro D ys W hD hS2 ⟨⟨rv, hb, hrow, hnil⟩, hBl⟩ hK
    have hc := hb.cell
    gi_wp2
    refine ⟨by simp, .inl ⟨_, _, rfl, run_takeDeferred hK, ?_⟩⟩
    refine ⟨rv, ?_, ys, rv, rfl, hS2, ownsRow_putObj hrow _ hK rfl, hnil, hBl.trans (belowK_b (w := w) (Nat.le_refl _) W D _ _ (by omega) hK rfl rfl)⟩
    simp [results, Tryz.f96, go_sem]
  case stop =>
    rintro D c pre W hD _ h
    exact h.elim

/-- what is sorted and a permutation of the fields is the fields -/
theorem fields_of_perm {l : List Reg} (hs : SortedB l) {name : ByteArray} {xs : List Reg} (hp : xs.Perm (fieldsL l name)) (hw : xs.Pairwise (fun a b => ltS b.f a.f = false)) : xs = fieldsL l name := by
  have hmem : ∀ y ∈ fieldsL l name, y ∈ l ∧ y.n = name := fun y hy => by
    obtain ⟨h1, h2⟩ := List.mem_filter.1 hy
    exact ⟨h1, seen_name h2⟩
  have hord : (fieldsL l name).Pairwise (fun a b => ltS b.f a.f = false) := by
    have h1 : (fieldsL l name).Pairwise (fun a b => aheadB a b = true) := List.Pairwise.filter _ hs
    refine h1.imp_of_mem ?_
    intro a b ha hb hab
    have e : a.n = b.n := (hmem a ha).2.trans (hmem b hb).2.symm
    rw [aheadB, eqS_iff.2 e] at hab
    simp only [if_true] at hab
    cases h : ltS b.f a.f
    · rfl
    · have := bl_trans _ _ _ hab h
      rw [bl_irrefl] at this; cases this
  refine List.Perm.eq_of_pairwise (le := fun a b => ltS b.f a.f = false) ?_ hw hord hp
  intro a b ha hb h1 h2
  obtain ⟨ha1, ha2⟩ := hmem a (hp.mem_iff.1 ha)
  obtain ⟨hb1, hb2⟩ := hmem b hb
  have hf : a.f = b.f := by
    refine toList_inj ?_
    by_cases e : a.f.toList = b.f.toList
    · exact e
    · have := bl_total _ _ e h2
      unfold ltS at h1
      rw [h1] at this; cases this
  have e1 := getR_of_mem hs ha1
  have e2 := getR_of_mem hs hb1
  rw [ha2, hf] at e1
  rw [hb2, e1] at e2
  cases e2; rfl
end Go.Proofs.YtdfafhclhfijnaaGreatDoor
