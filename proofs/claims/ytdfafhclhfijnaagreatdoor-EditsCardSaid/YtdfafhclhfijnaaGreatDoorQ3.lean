import Derived.Test.YtdfafhclhfijnaaGreatDoorQ2
namespace Go.Proofs.YtdfafhclhfijnaaGreatDoor
open Go.RowKit Go.Maps Go.Shelf

theorem clock_lt {l : List Reg} {y : Reg} (h : y ∈ l) : y.c < clockL l + 1 := by have := le_clockL h; omega

set_option maxRecDepth 100000 in
set_option maxHeartbeats 1000000 in
theorem putC_ok (r : RD) (n : Nat) (nm f v : ByteArray) (w : World) (hr : Rep w r n) (hn : n < 100000) (h1 : nm.size ≤ 100) (h2 : f.size ≤ maxLen) (h3 : v.size ≤ maxLen) (b1 : smallB nm 8 = true) (b2 : smallB f 4 = true) (b3 : (v.size : Int) ≤ 20) :
    Calls Tryz.prog 31 #[.pointer (some ⟨r.p, 0, none⟩), .string nm, .string f, .string v] w
      fun e w' => e = .returned .nilIface ∧ ∃ r', r'.id = r.id ∧ r'.l = withL r.l (putReg r.l r.id nm f v) ∧ Rep w' r' (n + 1) ∧ Eff w w' r r' := by
  have h1' : nm.size ≤ maxLen := Nat.le_trans h1 (by unfold maxLen; decide)
  have hck := checkPut_ok nm f v w h1' h2 h3 b1 b2 b3
  have hst := fun W (hb : Below w.heap.size w W) => stamp_rep r n W (hr.below (Nat.le_refl _) hb) hn
  have htk := fun W (hb : Below w.heap.size w W) => take_rep r n (putReg r.l r.id nm f v) W (hr.below (Nat.le_refl _) hb) hn (fun y hy => clock_lt hy) (by have := hr.clock; simp only [putReg]; omega) h1 h2
  have hlt := hr.lt
  clear hr
  obtain ⟨x, hx⟩ : ∃ x, putReg r.l r.id nm f v = x := ⟨_, rfl⟩
  have HX : Hid (x = ⟨nm, f, clockL r.l + 1, r.id, v⟩) := hx.symm
  rw [hx] at htk ⊢
  obtain ⟨c, hcl⟩ : ∃ c, clockL r.l + 1 = c := ⟨_, rfl⟩
  rw [hcl] at hst
  have htk2 : ∀ W, Below w.heap.size w W → Calls Tryz.prog 57 #[.pointer (some ⟨r.p, 1, none⟩), .agg #[.string nm, .string f, .int .i64 c, .int .i64 r.id, .string v]] W
      fun e w' => e = .returned (.tuple #[]) ∧ ∃ r', r'.id = r.id ∧ r'.l = withL r.l x ∧ Rep w' r' (n + 1) ∧ Eff W w' r r' := fun W hb => by
    have := htk W hb
    rw [HX.out, hcl] at this
    rw [HX.out, hcl]; exact this
  clear htk hcl hx
  go_enter Tryz.func31, Tryz.ntmps31
  go_wp2_with (first | (go_at_call 55; refine hck.mono ?_; clear hck; rintro e w1 ⟨rfl, rfl⟩) | (go_at_call 56; refine (made_any r.p _).mono ?_; rintro e w2 ⟨rfl, rfl⟩))
  have hst1 := hst w2.drew (Below.refl _ _).drew
  clear hst
  go_region_with (first | (go_at_call 58; refine hst1.mono ?_; clear hst1; rintro e w5 ⟨rfl, hb5⟩) | (go_at_call 57; refine (htk2 w5 (by exact (Below.refl _ w2).drew.trans hb5)).mono ?_; clear htk2; rintro e w6 ⟨rfl, r', e1, e2, hR, hE⟩))
  all_goals go_wp2
  all_goals go_ret
  all_goals exact ⟨rfl, r', e1, e2, hR, Eff.after_below ((Below.refl _ w2).drew.trans hb5) hE⟩

set_option maxRecDepth 100000 in
set_option maxHeartbeats 1000000 in
theorem putC_no (p : Nat) (nm f v : ByteArray) (w : World) (h1 : nm.size ≤ maxLen) (h2 : f.size ≤ maxLen) (h3 : v.size ≤ maxLen) (h : (putErr nm f v).1 ≠ 0) :
    Calls Tryz.prog 31 #[.pointer (some ⟨p, 0, none⟩), .string nm, .string f, .string v] w
      fun e w' => e = .returned (.iface 110 (.pointer (some ⟨w.heap.size, 0, none⟩))) ∧ w' = w.alloc (.cells #[.int .i64 (putErr nm f v).1, .string (putErr nm f v).2] 115) := by
  have hck := checkPut_no nm f v w h1 h2 h3 h
  go_enter Tryz.func31, Tryz.ntmps31
  go_wp2_with (go_at_call 55; refine hck.mono ?_; clear hck; rintro e w1 ⟨rfl, rfl⟩)
  go_ret
  exact ⟨rfl, rfl⟩

set_option maxRecDepth 100000 in
set_option maxHeartbeats 1000000 in
theorem delC_no1 (p : Nat) (nm : ByteArray) (w : World) (h1 : nm.size ≤ maxLen) (b1 : smallB nm 8 = false) :
    Calls Tryz.prog 32 #[.pointer (some ⟨p, 0, none⟩), .string nm] w
      fun e w' => e = .returned (.iface 110 (.pointer (some ⟨w.heap.size, 0, none⟩))) ∧ w' = w.alloc (.cells #[.int .i64 1, .string nm] 115) := by
  have hck := checkName_no nm w h1 b1
  go_enter Tryz.func32, Tryz.ntmps32
  go_wp2_with (go_at_call 59; refine hck.mono ?_; clear hck; rintro e w1 ⟨rfl, rfl⟩)
  go_ret
  exact ⟨rfl, rfl⟩

theorem shows_rep (r : RD) (n : Nat) (nm : ByteArray) (w : World) (hr : Rep w r n) (h1 : nm.size ≤ maxLen) :
    Calls Tryz.prog 60 #[.pointer (some ⟨r.p, 1, none⟩), .string nm] w fun e w' => e = .returned (.bool (decide (0 < (fieldsL r.l nm).length))) ∧ Below w.heap.size w w' :=
  shows_any r.p 1 r.M n r.v r.nb r.l nm w hr.cv hr.isMap hr.book hr.sorted h1

set_option maxRecDepth 100000 in
set_option maxHeartbeats 1000000 in
theorem delC_no4 (r : RD) (n : Nat) (nm : ByteArray) (w : World) (hr : Rep w r n) (h1 : nm.size ≤ maxLen) (b1 : smallB nm 8 = true) (b2 : (fieldsL r.l nm).length = 0) :
    Calls Tryz.prog 32 #[.pointer (some ⟨r.p, 0, none⟩), .string nm] w
      fun e w' => ∃ b, w.heap.size ≤ b ∧ e = .returned (.iface 110 (.pointer (some ⟨b, 0, none⟩))) ∧ w'.cell? ⟨b, 0, none⟩ = some (.int .i64 4) ∧ w'.cell? ⟨b, 1, none⟩ = some (.string nm) ∧ Below w.heap.size w w' := by
  have hck := checkName_ok nm w h1 b1
  have hsh := shows_rep r n nm w hr h1
  rw [b2] at hsh
  simp only [Nat.lt_irrefl, decide_false] at hsh
  clear hr b2
  go_enter Tryz.func32, Tryz.ntmps32
  go_wp2_with (first | (go_at_call 59; refine hck.mono ?_; clear hck; rintro e w1 ⟨rfl, rfl⟩) | (go_at_call 56; refine (made_any r.p _).mono ?_; rintro e w2 ⟨rfl, rfl⟩) | (go_at_call 60; refine hsh.mono ?_; clear hsh; rintro e w3 ⟨rfl, hb3⟩) | (go_at_call 61; refine (fault_any 4 nm _).mono ?_; rintro e w4 ⟨rfl, rfl⟩))
  go_ret
  exact ⟨_, hb3.size, rfl, by simp, by simp, hb3.alloc hb3.size _⟩

set_option maxRecDepth 100000 in
set_option maxHeartbeats 1000000 in
theorem delC_ok (r : RD) (n : Nat) (nm : ByteArray) (w : World) (hr : Rep w r n) (hn : n < 100000) (h1 : nm.size ≤ 100) (b1 : smallB nm 8 = true) (b2 : (fieldsL r.l nm).length ≠ 0) :
    Calls Tryz.prog 32 #[.pointer (some ⟨r.p, 0, none⟩), .string nm] w
      fun e w' => e = .returned .nilIface ∧ ∃ r', r'.id = r.id ∧ r'.l = withL r.l (delReg r.l r.id nm) ∧ Rep w' r' (n + 1) ∧ Eff w w' r r' := by
  have h1' : nm.size ≤ maxLen := Nat.le_trans h1 (by unfold maxLen; decide)
  have hck := checkName_ok nm w h1' b1
  have hsh := shows_rep r n nm w hr h1'
  rw [decide_eq_true (Nat.pos_of_ne_zero b2)] at hsh
  have hst := fun W (hb : Below w.heap.size w W) => stamp_rep r n W (hr.below (Nat.le_refl _) hb) hn
  have htk := fun W (hb : Below w.heap.size w W) => take_rep r n (delReg r.l r.id nm) W (hr.below (Nat.le_refl _) hb) hn (fun y hy => clock_lt hy) (by have := hr.clock; simp only [delReg]; omega) h1 (by show (0 : Nat) ≤ maxLen; exact Nat.zero_le _)
  have hlt := hr.lt
  clear hr b2
  obtain ⟨x, hx⟩ : ∃ x, delReg r.l r.id nm = x := ⟨_, rfl⟩
  have HX : Hid (x = ⟨nm, ⟨#[]⟩, clockL r.l + 1, r.id, ⟨#[]⟩⟩) := hx.symm
  rw [hx] at htk ⊢
  obtain ⟨c, hcl⟩ : ∃ c, clockL r.l + 1 = c := ⟨_, rfl⟩
  rw [hcl] at hst
  have htk2 : ∀ W, Below w.heap.size w W → Calls Tryz.prog 57 #[.pointer (some ⟨r.p, 1, none⟩), .agg #[.string nm, .string ⟨#[]⟩, .int .i64 c, .int .i64 r.id, .string ⟨#[]⟩]] W
      fun e w' => e = .returned (.tuple #[]) ∧ ∃ r', r'.id = r.id ∧ r'.l = withL r.l x ∧ Rep w' r' (n + 1) ∧ Eff W w' r r' := fun W hb => by
    have := htk W hb
    rw [HX.out, hcl] at this
    rw [HX.out, hcl]; exact this
  clear htk hcl hx
  go_enter Tryz.func32, Tryz.ntmps32
  go_wp2_with (first | (go_at_call 59; refine hck.mono ?_; clear hck; rintro e w1 ⟨rfl, rfl⟩) | (go_at_call 56; refine (made_any r.p _).mono ?_; rintro e w2 ⟨rfl, rfl⟩) | (go_at_call 60; refine hsh.mono ?_; clear hsh; rintro e w3 ⟨rfl, hb3⟩))
  have hst1 := hst w3.drew hb3.drew
  clear hst
  go_region_with (first | (go_at_call 58; refine hst1.mono ?_; clear hst1; rintro e w5 ⟨rfl, hb5⟩) | (go_at_call 57; refine (htk2 w5 (by exact hb3.drew.trans (hb5.mono hb3.size))).mono ?_; clear htk2; rintro e w6 ⟨rfl, r', e1, e2, hR, hE⟩))
  all_goals go_wp2
  all_goals go_ret
  all_goals exact ⟨rfl, r', e1, e2, hR, Eff.after_below (hb3.drew.trans (hb5.mono hb3.size)) hE⟩
end Go.Proofs.YtdfafhclhfijnaaGreatDoor
