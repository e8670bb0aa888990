import Derived.Test.YtdfafhclhfijnaaGreatDoorS1
namespace Go.Proofs.YtdfafhclhfijnaaGreatDoor
open Go.RowKit Go.Maps Go.Shelf

theorem Tryz.infoRp : (Tryz.prog.info? 67).map (fun i => (i.zero, i.size, i.bytes)) = some (some (.pointer none), 1, 8) := by kernel_rfl
theorem Tryz.infoOn : (Tryz.prog.info? 39).map (fun i => (i.zero, i.size, i.bytes)) = some (some (.pointer none), 1, 8) := by kernel_rfl

def newRD (p : Nat) (id : Int) : RD := ⟨p, id, [], .map none, 0, fun _ => 0⟩

/-- behind 'x = append(x, ..)', x in block B -/
theorem append_keepTy {W w3 : World} {B off base size k : Nat} {t e : TypeId} {cs : Array Value} {v v' : Value} {xs : List Value} {tmp : Obj} (hv : W.heap[B]? = some (.cells cs t (0, 0))) (hrow : W.ownsRow base e size v k xs) (hgrow : (W.alloc tmp).grownBy w3 v.ownBlock) : KeepTy [t, e] W (w3.setCell ⟨B, off, none⟩ v') := by
  refine ⟨?_, fun j hj hc => ?_⟩
  · have := hgrow.size
    simp [World.setCell] at this ⊢
    omega
  · have h1 : j ≠ B := fun e1 => by subst e1; exact hc _ _ _ hv (by simp)
    have h2 : some j ≠ v.ownBlock := fun e1 => by
      rcases hrow.2 with ⟨rfl, _⟩ | ⟨g, cap, cur, rfl, _, q3, _⟩
      · simp [Value.ownBlock] at e1
      · have : j = g := by simpa [Value.ownBlock] using e1
        subst this
        exact hc _ _ _ q3 (by simp)
    rw [Below.heap_setCell _ _ _ j h1, hgrow.block j (by simp; omega) h2, Below.heap_alloc _ _ _ hj]

theorem rep_new (w : World) (id : Int) (n : Nat) : Rep (w.alloc (.cells #[.int .i64 id, .map none] 108)) (newRD w.heap.size id) n where
  kind := ⟨_, World.alloc_heap_new w _⟩
  cid := by simp [newRD]
  cv := by simp [newRD]
  book := .inl ⟨rfl, rfl⟩
  sorted := List.Pairwise.nil
  isMap := ⟨none, rfl⟩
  len := Nat.zero_le _
  clock := by show (0 : Int) ≤ _; omega
  names := fun y hy => by simp [newRD] at hy

theorem PSt.below {base : Nat} {w w' : World} {pw N : Nat} {rs : Nat → RD} {n n' : Nat} (h : PSt base w pw N rs n) (hn : n ≤ n') (hb : Below w.heap.size w w') : PSt base w' pw N rs n' :=
  h.keep (S := []) hn (KeepTy.of_below hb) (by simp) (by simp) (by simp)
theorem LSt.below {base : Nat} {w w' : World} {lw pw N : Nat} {os : Nat → Nat} {ids : Nat → Int} {ls : Nat → List Reg} (h : LSt base w lw pw N os ids ls) (hb : Below w.heap.size w w') : LSt base w' lw pw N os ids ls :=
  h.keep (S := []) (KeepCells.of_below hb) (by simp) (by simp) (by simp) (by simp)

set_option maxRecDepth 100000 in
set_option maxHeartbeats 1000000 in
theorem newP_any (base pw N n : Nat) (rs : Nat → RD) (id : Int) (w : World) (h : PSt base w pw N rs n) (hN : N ≤ 5000) :
    Calls Tryz.prog 8 #[.pointer (some ⟨pw, 0, none⟩), .int .i64 id] w
      fun e w' => e = .returned (.bool true) ∧ ∃ p, PSt base w' pw (N + 1) (upd rs N (newRD p id)) n ∧ KeepCells [30, 67] w w' ∧ Below base w w' := by
  obtain ⟨i0, hti, hz0, hz1, hz2⟩ := info_parts Tryz.infoRp
  obtain ⟨pa, pc, hpw, hrow⟩ := h.plain
  have hpl : pw < w.heap.size := (Array.getElem?_eq_some_iff.1 hpw).1
  have hbs := h.hb
  have c0 : w.cell? ⟨pw, 0, none⟩ = some (.slice pa N pc) := by simp [World.cell?, hpw]
  have d0 : (w.alloc (.cells #[.int .i64 id, .map none] 108)).cell? ⟨pw, 0, none⟩ = some (.slice pa N pc) := by rw [World.cell?_alloc_lt _ _ ⟨pw, 0, none⟩ hpl]; exact c0
  have hbx : Boxed (w.alloc (.cells #[.int .i64 id, .map none] 108)) pw 30 (.slice pa N pc) := (show Boxed w pw 30 (.slice pa N pc) from hpw).alloc _
  have hrow1 := hrow.alloc (.cells #[.int .i64 id, .map none] 108)
  have hbW : Below w.heap.size w (w.alloc (.cells #[.int .i64 id, .map none] 108)) := (Below.refl _ _).alloc (Nat.le_refl _) _
  have hP1 := h.below (Nat.le_refl _) hbW
  have hR1 := rep_new w id n
  have hbs1 : base ≤ (w.alloc (.cells #[.int .i64 id, .map none] 108)).heap.size := by simp; omega
  obtain ⟨X, hX⟩ : ∃ X, w.alloc (.cells #[.int .i64 id, .map none] 108) = X := ⟨_, rfl⟩
  have hXs : X.heap.size = w.heap.size + 1 := by rw [← hX]; simp
  have hnew := newC_any id w
  rw [hX] at d0 hbx hrow1 hbW hP1 hR1 hbs1 hnew
  have HP : Hid (PSt base X pw N rs n) := hP1
  have HR : Hid (Rep X (newRD w.heap.size id) n) := hR1
  have HB : Hid (Below w.heap.size w X) := hbW
  have HO : Hid (∀ i, i < N → (rs i).p < w.heap.size ∧ ∀ k, (rs i).foot k → k < w.heap.size) := fun i hi => ⟨(h.reps i hi).lt, fun k hk => foot_lt (h.reps i hi) hk⟩
  have HXS : Hid (X.heap.size = w.heap.size + 1) := hXs
  have hpb := h.pwb
  clear hX hXs hP1 hR1 hbW hrow h hpw
  go_enter Tryz.func8, Tryz.ntmps8
  go_wp2_with (first | (go_at_call 26; refine hnew.mono ?_; clear hnew; rintro e w1 ⟨rfl, rfl⟩) | (at_builtin; refine wpList_append_own _ rfl _ _ 28 rfl base 67 i0 _ 1 8 Tryz.underlying28 hti hz0 hz1 hz2 rfl (by decide) (.slice pa N pc) N (ptrs (fun i => (rs i).p) N) rfl (hrow1.alloc _) ⟨w1.heap.size, 0, none⟩ 1 1 [.pointer (some ⟨w.heap.size, 0, none⟩)] rfl rfl (news_new _ [.pointer (some ⟨w.heap.size, 0, none⟩)] _) (by simp [Value.oneCell']) (by unfold maxLen; omega) (by omega) (by simp; omega) ?_; intro v' w3 hown' hgrow _; obtain ⟨g', cap', rfl⟩ := ownsRow_succ hown'; obtain ⟨hv1, hv2, hr2, hk2, hb2⟩ := hbx.appended (by decide) hrow1 hbs1 hpb hown' hgrow; have cc := hv1.cell; have ff := hv1.frozen))
  go_ret
  have hkt := append_keepTy (off := 0) (v' := .slice (some ⟨g', 0, none⟩) (N + 1) cap') hbx hrow1 hgrow
  have hXS := HXS.out
  refine ⟨rfl, w.heap.size, ⟨hpb, Nat.le_trans hbs1 hk2.size, ⟨_, _, hv2, ?_⟩, ?_, ?_, ?_⟩, ?_, ?_⟩
  · rw [ptrs_succ, upd_same]
    rw [ptrs_congr (g := fun i => (rs i).p) (fun i hi => by rw [upd_other _ _ (by omega)])]
    exact hr2
  · intro i hi
    by_cases e : i = N
    · subst e
      rw [upd_same]
      exact HR.out.keep (Nat.le_refl _) (hkt.same _ (by show w.heap.size < _; omega) (fun cs t f hc => by
        obtain ⟨cs', hcs'⟩ := HR.out.kind
        rw [show (newRD w.heap.size id).p = w.heap.size from rfl] at hcs'
        rw [show (newRD w.heap.size id).p = w.heap.size from rfl, hcs'] at hc
        cases hc; decide)) (fun k hk => by cases hk.1)
    · rw [upd_other _ _ e]
      have hr := HP.out.reps i (by omega)
      obtain ⟨cs, hcs⟩ := hr.kind
      exact hr.keep (Nat.le_refl _) (hkt.cells.same _ _ _ _ hcs (by decide)) (fun k hf => hkt.same k (foot_lt hr hf) (fun cs t f e => absurd e (foot_no_cells hr hf cs t f)))
  · intro i hi
    by_cases e : i = N
    · subst e
      rw [upd_same]
      exact ⟨by show base ≤ w.heap.size; exact hbs, fun k hk => by cases hk.1⟩
    · rw [upd_other _ _ e]; exact HP.out.repb i (by omega)
  · intro i j hi hj hij
    by_cases e : i = N
    · subst e
      rw [upd_same, upd_other _ _ (fun e => hij e.symm)]
      exact ⟨fun e => by have := (HO.out j (by omega)).1; rw [← e] at this; exact Nat.lt_irrefl _ this, fun k hk => by cases hk.1⟩
    · rw [upd_other _ _ e]
      by_cases e2 : j = N
      · subst e2
        rw [upd_same]
        exact ⟨fun e => by have := (HO.out i (by omega)).1; rw [e] at this; exact Nat.lt_irrefl _ this, fun k _ hk => by cases hk.1⟩
      · rw [upd_other _ _ e2]; exact HP.out.disj i j (by omega) (by omega) hij
  · have := (KeepCells.of_below (S := []) HB.out).trans hkt.cells
    exact this
  · exact (HB.out.mono hbs).trans hb2
end Go.Proofs.YtdfafhclhfijnaaGreatDoor
