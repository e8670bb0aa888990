import Derived.Test.YtdfafhclhfijnaaGreatDoorK2
namespace Go.Proofs.YtdfafhclhfijnaaGreatDoor
open Go.RowKit Go.Maps Go.Shelf

theorem small_size {s : ByteArray} {m : Int} (h : smallB s m = true) : (s.size : Int) ≤ m := by
  unfold smallB at h
  simp at h
  omega

theorem upd_self {α : Type} (f : Nat → α) (i : Nat) : upd f i (f i) = f := by
  funext j
  by_cases e : j = i
  · subst e; rw [upd_same]
  · rw [upd_other _ _ e]

theorem putQ {base pw N n i : Nat} {rs : Nat → RD} {w : World} (h : PSt base w pw N rs n) (hE : ErrT w) (hi : i < N) (hN : N ≤ 5000) (hn : n < 5000) (s t u : ByteArray) (hs : s.size ≤ 5000) (ht : t.size ≤ 5000) (hu : u.size ≤ 5000) :
    Calls Tryz.prog 11 #[.pointer (some ⟨pw, 0, none⟩), .int .i64 i, .string s, .string t, .string u] w
      fun e w' => e = .returned (.agg #[.int .i64 (putL (rs i).l (rs i).id s t u).2.1, .string (putL (rs i).l (rs i).id s t u).2.2]) ∧ ∃ r', r'.id = (rs i).id ∧ r'.l = (putL (rs i).l (rs i).id s t u).1 ∧ PSt base w' pw N (upd rs i r') (n + 1) ∧ KeepCells [108] w w' ∧ Below base w w' := by
  have hm : (5000 : Nat) ≤ maxLen := by unfold maxLen; decide
  obtain ⟨g, cap, ha⟩ := h.at hi (by omega)
  have hr := h.reps i hi
  by_cases hbad : (putErr s t u).1 = 0
  · have hb1 : smallB s 8 = true := by
      cases hb : smallB s 8
      · simp [putErr, hb] at hbad
      · rfl
    have hb2 : smallB t 4 = true := by
      cases hb : smallB t 4
      · simp [putErr, hb1, hb] at hbad
      · rfl
    have hb3 : (u.size : Int) ≤ 20 := by
      by_cases hb : 20 < (u.size : Int)
      · simp [putErr, hb1, hb2, hb] at hbad
      · omega
    have e1 : putL (rs i).l (rs i).id s t u = (withL (rs i).l (putReg (rs i).l (rs i).id s t u), 0, ⟨#[]⟩) := by
      have : ¬ 20 < (u.size : Int) := by omega
      simp [putL, hb1, hb2, this]
    rw [e1]
    refine (putP_ok (rs i) n pw g i N cap s t u w ha hr (by omega) (by have := small_size hb1; omega) (by omega) (by omega) hb1 hb2 hb3).mono ?_
    rintro e w' ⟨rfl, r', q1, q2, q3, q4⟩
    exact ⟨rfl, r', q1, q2, h.eff (by omega) hi q4 q3, KeepCells.of_eff hr q4, low_eff h hi q4⟩
  · have e1 : putL (rs i).l (rs i).id s t u = ((rs i).l, (putErr s t u).1, (putErr s t u).2) := by
      unfold putErr at hbad ⊢
      unfold putL
      split
      · simp
      · rename_i x
        split
        · simp
        · rename_i y
          split
          · simp
          · rename_i z; simp [x, y, z] at hbad
    rw [e1]
    refine (putP_no (rs i).p pw g i N cap s t u w ha hE (by omega) (by omega) (by omega) hbad).mono ?_
    rintro e w' ⟨rfl, hb⟩
    exact ⟨rfl, rs i, rfl, rfl, by rw [upd_self]; exact h.below (by omega) hb, KeepCells.of_below hb, hb.mono h.hb⟩

theorem delQ {base pw N n i : Nat} {rs : Nat → RD} {w : World} (h : PSt base w pw N rs n) (hE : ErrT w) (hi : i < N) (hN : N ≤ 5000) (hn : n < 5000) (s : ByteArray) (hs : s.size ≤ 5000) :
    Calls Tryz.prog 13 #[.pointer (some ⟨pw, 0, none⟩), .int .i64 i, .string s] w
      fun e w' => e = .returned (.agg #[.int .i64 (deleteL (rs i).l (rs i).id s).2.1, .string (deleteL (rs i).l (rs i).id s).2.2]) ∧ ∃ r', r'.id = (rs i).id ∧ r'.l = (deleteL (rs i).l (rs i).id s).1 ∧ PSt base w' pw N (upd rs i r') (n + 1) ∧ KeepCells [108] w w' ∧ Below base w w' := by
  have hm : (5000 : Nat) ≤ maxLen := by unfold maxLen; decide
  obtain ⟨g, cap, ha⟩ := h.at hi (by omega)
  have hr := h.reps i hi
  by_cases hok : smallB s 8 = true ∧ (fieldsL (rs i).l s).length ≠ 0
  · have e1 : deleteL (rs i).l (rs i).id s = (withL (rs i).l (delReg (rs i).l (rs i).id s), 0, ⟨#[]⟩) := by
      simp only [deleteL, hok.1, Bool.true_eq_false, if_false, if_neg hok.2]
    rw [e1]
    refine (delP_ok (rs i) n pw g i N cap s w ha hr (by omega) (by have := small_size hok.1; omega) hok.1 hok.2).mono ?_
    rintro e w' ⟨rfl, r', q1, q2, q3, q4⟩
    exact ⟨rfl, r', q1, q2, h.eff (by omega) hi q4 q3, KeepCells.of_eff hr q4, low_eff h hi q4⟩
  · have hno : smallB s 8 = false ∨ (fieldsL (rs i).l s).length = 0 := by
      cases hb : smallB s 8
      · exact .inl rfl
      · right
        by_cases hz : (fieldsL (rs i).l s).length = 0
        · exact hz
        · exact absurd ⟨hb, hz⟩ hok
    have e1 : deleteL (rs i).l (rs i).id s = ((rs i).l, (if smallB s 8 = false then 1 else 4), s) := by
      unfold deleteL
      cases hb : smallB s 8
      · simp
      · rcases hno with h0 | h0
        · rw [hb] at h0; cases h0
        · simp [h0]
    rw [e1]
    refine (delP_no (rs i) n pw g i N cap s w ha hE hr (by omega) hno).mono ?_
    rintro e w' ⟨rfl, hb⟩
    exact ⟨rfl, rs i, rfl, rfl, by rw [upd_self]; exact h.below (by omega) hb, KeepCells.of_below hb, hb.mono h.hb⟩
end Go.Proofs.YtdfafhclhfijnaaGreatDoor
