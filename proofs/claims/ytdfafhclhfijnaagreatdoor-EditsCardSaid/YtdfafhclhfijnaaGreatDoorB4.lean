import Derived.Test.YtdfafhclhfijnaaGreatDoorB3
namespace Go.Proofs.YtdfafhclhfijnaaGreatDoor
open Go.RowKit Go.Maps

theorem wins_cases {a b : Reg} (h : winsB a b = true) : laterB a b = true ∨ (laterB a b = false ∧ a.c = b.c ∧ a.r = b.r ∧ (!ltS a.v b.v && !eqS a.v b.v) = true) := by
  cases hl : laterB a b
  · right
    unfold winsB at h
    unfold laterB at hl
    by_cases hc : a.c = b.c
    · rw [if_pos hc] at h
      by_cases hr : a.r = b.r
      · rw [if_pos hr] at h
        exact ⟨rfl, hc, hr, h⟩
      · rw [if_neg hr] at h
        simp [hc] at hl
        have := of_decide_eq_true h
        omega
    · rw [if_neg hc] at h
      have := of_decide_eq_true h
      simp [hc] at hl
      omega
  · exact .inl rfl

theorem bcell {W w1 : World} (hb : Below W.heap.size W w1) : (∀ b o, b < W.heap.size → w1.cell? ⟨b, o, none⟩ = W.cell? ⟨b, o, none⟩) ∧ (∀ b o, b < W.heap.size → w1.frozen? ⟨b, o, none⟩ = W.frozen? ⟨b, o, none⟩) :=
  ⟨fun b o h => hb.cell (p := ⟨b, o, none⟩) h, fun b o h => hb.frozen (p := ⟨b, o, none⟩) h⟩

set_option maxRecDepth 100000 in
set_option maxHeartbeats 1000000 in
theorem winner_wins (a b : Reg) (w : World) (h : winsB a b = true) :
    Calls Tryz.prog 77 #[.agg #[.string a.n, .string a.f, .int .i64 a.c, .int .i64 a.r, .string a.v], .agg #[.string b.n, .string b.f, .int .i64 b.c, .int .i64 b.r, .string b.v]] w
      fun e w' => e = .returned (.agg #[.string a.n, .string a.f, .int .i64 a.c, .int .i64 a.r, .string a.v]) ∧ Below w.heap.size w w' := by
  have HB : ∀ (o1 o2 o3 : Obj) (w' : World), Below (((w.alloc o1).alloc o2).alloc o3).heap.size (((w.alloc o1).alloc o2).alloc o3) w' → Below w.heap.size w w' := by
    intro o1 o2 o3 w' hb
    exact ((((Below.refl _ w).alloc (Nat.le_refl _) _).alloc (by simp) _).alloc (by simp; omega) _).trans (hb.mono (by simp; omega))
  have hHB : Hid (∀ (o1 o2 o3 : Obj) (w' : World), Below (((w.alloc o1).alloc o2).alloc o3).heap.size (((w.alloc o1).alloc o2).alloc o3) w' → Below w.heap.size w w') := HB
  clear HB
  rcases wins_cases h with hl | ⟨hl, hc, hr, hv⟩
  · go_enter Tryz.func77, Tryz.ntmps77
    go_wp2_with fail
    refine (later_any a b _).mono ?_
    rw [hl]
    rintro e w' ⟨rfl, hb⟩
    obtain ⟨hc1, hf1⟩ := bcell hb
    have hz : w.heap.size + 2 < w'.heap.size := by have := hb.size; simp at this; omega
    have hB : Hid (Below w.heap.size w w') := hHB.out _ _ _ _ hb
    clear hb hHB
    go_wp2
    exact bodyPost_ret (v := .agg #[.string a.n, .string a.f, .int .i64 a.c, .int .i64 a.r, .string a.v]) (by simp [results, Tryz.results77, go_sem, hc1]) rfl
      ⟨rfl, (((((hB.out.setCell (p := ⟨w.heap.size + 1 + 1, 0, none⟩) (by simp; omega) _).setCell (p := ⟨w.heap.size + 1 + 1, 1, none⟩) (by simp; omega) _).setCell (p := ⟨w.heap.size + 1 + 1, 2, none⟩) (by simp; omega) _).setCell (p := ⟨w.heap.size + 1 + 1, 3, none⟩) (by simp; omega) _).setCell (p := ⟨w.heap.size + 1 + 1, 4, none⟩) (by simp; omega) _)⟩
  · have hv1 : ltS a.v b.v = false := by
      cases e : ltS a.v b.v
      · rfl
      · rw [e] at hv; simp at hv
    have hv2 : eqS a.v b.v = false := by
      cases e : eqS a.v b.v
      · rfl
      · rw [e] at hv; simp at hv
    unfold ltS at hv1
    unfold eqS at hv2
    have q1 : (a.c == b.c) = true := by simp [hc]
    have q2 : (a.r == b.r) = true := by simp [hr]
    clear hc hr hv h
    go_enter Tryz.func77, Tryz.ntmps77
    go_wp2_with fail
    refine (later_any a b _).mono ?_
    rw [hl]
    rintro e w' ⟨rfl, hb⟩
    obtain ⟨hc1, hf1⟩ := bcell hb
    have hz : w.heap.size + 2 < w'.heap.size := by have := hb.size; simp at this; omega
    have hB : Hid (Below w.heap.size w w') := hHB.out _ _ _ _ hb
    clear hb hHB
    go_wp2
    exact bodyPost_ret (v := .agg #[.string a.n, .string a.f, .int .i64 a.c, .int .i64 a.r, .string a.v]) (by simp [results, Tryz.results77, go_sem, hc1]) rfl
      ⟨rfl, (((((hB.out.setCell (p := ⟨w.heap.size + 1 + 1, 0, none⟩) (by simp; omega) _).setCell (p := ⟨w.heap.size + 1 + 1, 1, none⟩) (by simp; omega) _).setCell (p := ⟨w.heap.size + 1 + 1, 2, none⟩) (by simp; omega) _).setCell (p := ⟨w.heap.size + 1 + 1, 3, none⟩) (by simp; omega) _).setCell (p := ⟨w.heap.size + 1 + 1, 4, none⟩) (by simp; omega) _)⟩

set_option maxHeartbeats 400000 in
theorem regEql_no (x y : Reg) (w : World) (h : (x.c == y.c && (x.r == y.r && (x.v.toList == y.v.toList))) = false) :
    (binOp .eql 99 (.agg #[.string x.n, .string x.f, .int .i64 x.c, .int .i64 x.r, .string x.v]) (.agg #[.string y.n, .string y.f, .int .i64 y.c, .int .i64 y.r, .string y.v])).run Tryz.prog w = .ok (.bool false) w := by
  cases h1 : (x.n.toList == y.n.toList)
  · go_simp
  · cases h2 : (x.f.toList == y.f.toList)
    · go_simp
    · cases h3 : (x.c == y.c)
      · go_simp
      · cases h4 : (x.r == y.r)
        · go_simp
        · have h5 : (x.v.toList == y.v.toList) = false := by rw [h3, h4] at h; simpa using h
          go_simp
end Go.Proofs.YtdfafhclhfijnaaGreatDoor
