import Derived.Test.YtdfafhclhfijnaaGreatDoorR6
namespace Go.Proofs.YtdfafhclhfijnaaGreatDoor
open Go.RowKit Go.Extern

set_option maxHeartbeats 400000 in
theorem letters_any (s : ByteArray) (m : Int) (w : World) (hs : s.size ≤ maxLen) :
    Calls Tryz.prog 76 #[.string s, .int .i64 m] w fun e w' => e = .returned (.bool (smallB s m)) ∧ w' = w := by
  unfold maxLen at hs
  by_cases h1 : (s.size : Int) < 1
  · go_enter Tryz.func76, Tryz.ntmps76
    go_wp2
    go_ret
    exact ⟨ret_bool (by unfold smallB; rw [decide_eq_false (p := 0 < s.size) (by omega)]; simp), rfl⟩
  · by_cases h2 : m < (s.size : Int)
    · go_enter Tryz.func76, Tryz.ntmps76
      go_wp2
      go_ret
      exact ⟨ret_bool (by unfold smallB; rw [decide_eq_false (p := (s.size : Int) ≤ m) (by omega)]; simp), rfl⟩
    · have HR : Hid (smallB s m = lettersB s.data.toList) := by
        show smallB s m = _
        unfold smallB; rw [decide_eq_true (p := (s.size : Int) ≤ m) (by omega), decide_eq_true (p := 0 < s.size) (by omega)]; simp
      go_enter Tryz.func76, Tryz.ntmps76
      go_wp2
      go_loop [17] (fun i => ∃ k : Nat, k ≤ s.size ∧ i = .int .i64 k ∧ lettersB (s.data.toList.take k) = true) (fun i => s.size - (intOf i).toNat)
      case atStart => exact ⟨0, Nat.zero_le _, rfl, rfl⟩
      case round =>
        obtain ⟨k, hk, rfl, hl⟩ := hrel
        by_cases hlt : k < s.size
        · by_cases h3 : (s[k].toNat : Int) < 97
          · go_wp2
            go_ret
            exact ⟨ret_bool (by rw [HR.out, letters_no s k hlt (letterB_no (.inl h3))]), rfl⟩
          · by_cases h4 : 122 < (s[k].toNat : Int)
            · go_wp2
              go_ret
              exact ⟨ret_bool (by rw [HR.out, letters_no s k hlt (letterB_no (.inr h4))]), rfl⟩
            · go_wp2
              go_round
              case rel => exact ⟨k + 1, by omega, by go_num, letters_yes s k hlt hl (letterB_yes ⟨by omega, by omega⟩)⟩
              case measure => simp [intOf]; omega
        · have hall : lettersB s.data.toList = true := by
            rw [List.take_of_length_le (by simp; omega)] at hl; exact hl
          have H : Hid (lettersB s.data.toList = true) := hall
          clear hall hl
          go_wp2
          go_ret
          exact ⟨ret_bool (by rw [HR.out, H.out]), rfl⟩

set_option maxHeartbeats 400000 in
theorem fault_any (k : Int) (s : ByteArray) (w : World) :
    Calls Tryz.prog 61 #[.int .i64 k, .string s] w fun e w' => e = .returned (.iface 110 (.pointer (some ⟨w.heap.size, 0, none⟩))) ∧ w' = w.alloc (.cells #[.int .i64 k, .string s] 115) := by
  go_enter Tryz.func61, Tryz.ntmps61
  go_wp2
  go_ret
  exact ⟨rfl, rfl⟩

set_option maxHeartbeats 400000 in
theorem checkName_ok (s : ByteArray) (w : World) (hs : s.size ≤ maxLen) (h : smallB s 8 = true) :
    Calls Tryz.prog 59 #[.string s] w fun e w' => e = .returned .nilIface ∧ w' = w := by
  have hL := letters_any s 8 w hs
  rw [h] at hL
  go_enter Tryz.func59, Tryz.ntmps59
  go_wp2_with fail
  refine hL.mono ?_
  rintro e w' ⟨rfl, hw⟩
  subst hw
  go_wp2_with fail
  go_ret
  exact ⟨rfl, rfl⟩

set_option maxHeartbeats 400000 in
theorem checkName_no (s : ByteArray) (w : World) (hs : s.size ≤ maxLen) (h : smallB s 8 = false) :
    Calls Tryz.prog 59 #[.string s] w fun e w' => e = .returned (.iface 110 (.pointer (some ⟨w.heap.size, 0, none⟩))) ∧ w' = w.alloc (.cells #[.int .i64 1, .string s] 115) := by
  have hL := letters_any s 8 w hs
  rw [h] at hL
  go_enter Tryz.func59, Tryz.ntmps59
  go_wp2_with fail
  refine hL.mono ?_
  rintro e w' ⟨rfl, hw⟩
  subst hw
  go_wp2_with fail
  refine (fault_any 1 s _).mono ?_
  rintro e w'' ⟨rfl, hw⟩
  subst hw
  go_wp2_with fail
  go_ret
  exact ⟨rfl, rfl⟩

/-- what checkPut tells: 0, or the error's kind and what it is about -/
def putErr (name field value : ByteArray) : Int × ByteArray :=
  if smallB name 8 = false then (1, name) else if smallB field 4 = false then (2, field) else if 20 < (value.size : Int) then (3, value) else (0, ⟨#[]⟩)

set_option maxHeartbeats 400000 in
theorem checkPut_ok (n f v : ByteArray) (w : World) (h1 : n.size ≤ maxLen) (h2 : f.size ≤ maxLen) (h3 : v.size ≤ maxLen) (b1 : smallB n 8 = true) (b2 : smallB f 4 = true) (b3 : (v.size : Int) ≤ 20) :
    Calls Tryz.prog 55 #[.string n, .string f, .string v] w fun e w' => e = .returned .nilIface ∧ w' = w := by
  have hL := letters_any f 4 w h2
  rw [b2] at hL
  unfold maxLen at h3
  go_enter Tryz.func55, Tryz.ntmps55
  go_wp2_with fail
  refine (checkName_ok n w h1 b1).mono ?_
  rintro e w' ⟨rfl, hw⟩
  subst hw
  go_wp2_with fail
  refine hL.mono ?_
  rintro e w' ⟨rfl, hw⟩
  subst hw
  go_wp2_with fail
  go_ret
  exact ⟨rfl, rfl⟩

set_option maxHeartbeats 400000 in
theorem checkPut_no (n f v : ByteArray) (w : World) (h1 : n.size ≤ maxLen) (h2 : f.size ≤ maxLen) (_h3 : v.size ≤ maxLen) (h : (putErr n f v).1 ≠ 0) :
    Calls Tryz.prog 55 #[.string n, .string f, .string v] w fun e w' => e = .returned (.iface 110 (.pointer (some ⟨w.heap.size, 0, none⟩))) ∧ w' = w.alloc (.cells #[.int .i64 (putErr n f v).1, .string (putErr n f v).2] 115) := by
  have hL := letters_any f 4 w h2
  unfold maxLen at _h3
  have HP : Hid (putErr n f v = if smallB n 8 = false then (1, n) else if smallB f 4 = false then (2, f) else if 20 < (v.size : Int) then (3, v) else (0, ⟨#[]⟩)) := rfl
  generalize putErr n f v = R at *
  cases b1 : smallB n 8
  · have hR : R = (1, n) := by rw [HP.out, b1]; rfl
    subst hR
    clear HP
    go_enter Tryz.func55, Tryz.ntmps55
    go_wp2_with fail
    refine (checkName_no n w h1 b1).mono ?_
    rintro e w' ⟨rfl, hw⟩
    subst hw
    go_wp2_with fail
    go_ret
    exact ⟨rfl, rfl⟩
  · cases b2 : smallB f 4
    · have hR : R = (2, f) := by rw [HP.out, b1, b2]; rfl
      subst hR
      clear HP
      rw [b2] at hL
      go_enter Tryz.func55, Tryz.ntmps55
      go_wp2_with fail
      refine (checkName_ok n w h1 b1).mono ?_
      rintro e w' ⟨rfl, hw⟩
      subst hw
      go_wp2_with fail
      refine hL.mono ?_
      rintro e w' ⟨rfl, hw⟩
      subst hw
      go_wp2_with fail
      refine (fault_any 2 f _).mono ?_
      rintro e w' ⟨rfl, hw⟩
      subst hw
      go_wp2_with fail
      go_ret
      exact ⟨rfl, rfl⟩
    · by_cases b3 : 20 < (v.size : Int)
      · have hR : R = (3, v) := by rw [HP.out, b1, b2]; simp [b3]
        subst hR
        clear HP
        rw [b2] at hL
        go_enter Tryz.func55, Tryz.ntmps55
        go_wp2_with fail
        refine (checkName_ok n w h1 b1).mono ?_
        rintro e w' ⟨rfl, hw⟩
        subst hw
        go_wp2_with fail
        refine hL.mono ?_
        rintro e w' ⟨rfl, hw⟩
        subst hw
        go_wp2_with fail
        refine (fault_any 3 v _).mono ?_
        rintro e w' ⟨rfl, hw⟩
        subst hw
        go_wp2_with fail
        go_ret
        exact ⟨rfl, rfl⟩
      · exact absurd (by rw [HP.out, b1, b2]; simp [b3]) h

set_option maxHeartbeats 400000 in
theorem later_any (a b : Reg) (w : World) :
    Calls Tryz.prog 88 #[.agg #[.int .i64 a.c, .int .i64 a.r], .agg #[.int .i64 b.c, .int .i64 b.r]] w fun e w' => e = .returned (.bool (laterB a b)) ∧ Below w.heap.size w w' := by
  cases h1 : (a.c == b.c)
  · go_enter Tryz.func88, Tryz.ntmps88
    go_wp2
    go_ret
    exact ⟨ret_bool (by rw [laterB, h1]; simp), ((Below.refl _ _).alloc (Nat.le_refl _) _).alloc (by simp) _⟩
  · have h2 : a.c = b.c := by simpa using h1
    go_enter Tryz.func88, Tryz.ntmps88
    go_wp2
    go_ret
    exact ⟨ret_bool (by rw [laterB, h1, h2]; simp), ((Below.refl _ _).alloc (Nat.le_refl _) _).alloc (by simp) _⟩

/-- The register of two of one key that stands. -/
def winnerR (a b : Reg) : Reg := if winsB a b then a else b
theorem winsB_later {a b : Reg} (h : laterB a b = true) : winsB a b = true := by
  unfold laterB at h; unfold winsB
  by_cases hc : a.c = b.c
  · rw [if_pos hc]
    have h2 : b.r < a.r := by
      simp [hc] at h; exact h
    rw [if_neg (by omega)]; simpa using h2
  · rw [if_neg hc]
    simp [hc] at h ⊢; exact h
end Go.Proofs.YtdfafhclhfijnaaGreatDoor
