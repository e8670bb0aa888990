import Derived.Test.YtdfafhclhfijnaaGreatDoorQ3
namespace Go.Proofs.YtdfafhclhfijnaaGreatDoor
open Go.RowKit Go.Maps Go.Shelf

/-- the global that errors.As reads -/
def ErrT (w : World) : Prop := w.cell? ⟨0, 0, none⟩ = some (.iface 155 (.agg #[.pointer (some ⟨2, 74, none⟩)]))

/-- the i-th replica of plain's world, as its calls find it -/
structure AtI (w : World) (pw g i len cap p : Nat) : Prop where
  hw : w.cell? ⟨pw, 0, none⟩ = some (.slice (some ⟨g, 0, none⟩) len cap)
  hi : i < len
  hlen : len ≤ 100000
  hp : w.cell? ⟨g, i, none⟩ = some (.pointer (some ⟨p, 0, none⟩))

set_option maxHeartbeats 400000 in
theorem newC_any (id : Int) (w : World) :
    Calls Tryz.prog 26 #[.int .i64 id] w fun e w' => e = .returned (.pointer (some ⟨w.heap.size, 0, none⟩)) ∧ w' = w.alloc (.cells #[.int .i64 id, .map none] 108) := by
  go_enter Tryz.func26, Tryz.ntmps26
  go_wp2
  go_ret
  exact ⟨rfl, rfl⟩

/-- the result's two cells -/
def two (w : World) (b : Nat) : Prop := w.cell? ⟨b, 0, none⟩ = some (.int .i64 0) ∧ w.cell? ⟨b, 1, none⟩ = some (.string ⟨#[]⟩) ∧ w.frozen? ⟨b, 0, none⟩ = false ∧ w.frozen? ⟨b, 1, none⟩ = false
theorem two_block {w w' : World} {b : Nat} (h : two w b) (hb : w'.heap[b]? = w.heap[b]?) : two w' b :=
  ⟨(World.cell?_of_block (w := w) (a := ⟨b, 0, none⟩) hb).trans h.1, (World.cell?_of_block (w := w) (a := ⟨b, 1, none⟩) hb).trans h.2.1, (World.frozen?_of_block (w := w) (a := ⟨b, 0, none⟩) hb).trans h.2.2.1, (World.frozen?_of_block (w := w) (a := ⟨b, 1, none⟩) hb).trans h.2.2.2⟩
theorem two_new (w : World) (t : TypeId) : two (w.alloc (.cells #[.int .i64 0, .string ⟨#[]⟩] t)) w.heap.size := ⟨by simp, by simp, by simp, by simp⟩

theorem set_two (w : World) (b : Nat) (u v : Value) : w.grownBy ((w.setCell ⟨b, 0, none⟩ u).setCell ⟨b, 1, none⟩ v) (some b) :=
  ⟨rfl, rfl, rfl, by simp [World.setCell], fun k _ hne => by
    have : k ≠ b := fun e => hne (by rw [e])
    rw [Below.heap_setCell _ _ _ k this, Below.heap_setCell _ _ _ k this]⟩

/-- behind the store of the result -/
theorem rep_store {w W1 w2 w3 : World} {r r' : RD} {n m : Nat} (hr : Rep w r n) (hb1 : Below w.heap.size w W1) (hs1 : w.heap.size < W1.heap.size) (hE : Eff W1 w2 r r') (hR : Rep w2 r' m) (hg : w2.grownBy w3 (some w.heap.size)) : Rep w3 r' m ∧ Eff w w3 r r' := by
  have hlt := hr.lt
  have hp := hE.hp
  have hf : ∀ k, r'.foot k → k ≠ w.heap.size := fun k hk e => by
    rcases hE.foot k hk with h | h
    · have := foot_lt hr h; omega
    · omega
  refine ⟨hR.keep (Nat.le_refl _) (hg.block _ hR.lt (fun e => by have := Option.some.inj e; omega)) (fun k hk => hg.block k (foot_lt hR hk) (fun e => hf k hk (Option.some.inj e))), ?_⟩
  have hE2 := Eff.after_below hb1 hE
  exact ⟨hg.os.trans hE2.os, hg.tape.trans hE2.tape, hg.output.trans hE2.output, Nat.le_trans hE2.size hg.size, fun k hk a b => (hg.block k (Nat.lt_of_lt_of_le hk hE2.size) (fun e => by have := Option.some.inj e; omega)).trans (hE2.block k hk a b), hE2.foot, hE2.hp⟩

theorem eff_two {w W1 w2 : World} {r r' : RD} {n : Nat} (hr : Rep w r n) (hs1 : w.heap.size < W1.heap.size) (hE : Eff W1 w2 r r') (h : two W1 w.heap.size) : two w2 w.heap.size :=
  two_block h (hE.block _ hs1 (by have := hr.lt; omega) (fun hk => by have := foot_lt hr hk; omega))

set_option maxRecDepth 100000 in
set_option maxHeartbeats 1000000 in
theorem putP_ok (r : RD) (n pw g i len cap : Nat) (nm f v : ByteArray) (w : World) (hA : AtI w pw g i len cap r.p) (hr : Rep w r n) (hn : n < 100000) (h1 : nm.size ≤ 100) (h2 : f.size ≤ maxLen) (h3 : v.size ≤ maxLen) (b1 : smallB nm 8 = true) (b2 : smallB f 4 = true) (b3 : (v.size : Int) ≤ 20) :
    Calls Tryz.prog 11 #[.pointer (some ⟨pw, 0, none⟩), .int .i64 i, .string nm, .string f, .string v] w
      fun e w' => e = .returned (.agg #[.int .i64 0, .string ⟨#[]⟩]) ∧ ∃ r', r'.id = r.id ∧ r'.l = withL r.l (putReg r.l r.id nm f v) ∧ Rep w' r' (n + 1) ∧ Eff w w' r r' := by
  obtain ⟨hw, hi, hlen, hp⟩ := hA
  have l1 := lt_of_cell hw
  have l2 := lt_of_cell hp
  have hW1 : Below w.heap.size w (w.alloc (.cells #[.int .i64 0, .string ⟨#[]⟩] 47)) := (Below.refl _ _).alloc (Nat.le_refl _) _
  have hP := putC_ok r n nm f v (w.alloc (.cells #[.int .i64 0, .string ⟨#[]⟩] 47)) (hr.below (Nat.le_refl _) hW1) hn h1 h2 h3 b1 b2 b3
  have HE : Hid (∀ w1 r', Eff (w.alloc (.cells #[.int .i64 0, .string ⟨#[]⟩] 47)) w1 r r' → two w1 w.heap.size) := fun w1 r' hE => eff_two hr (by simp) hE (two_new w _)
  have HF : Hid (∀ w2 w3 r', Eff (w.alloc (.cells #[.int .i64 0, .string ⟨#[]⟩] 47)) w2 r r' → Rep w2 r' (n + 1) → w2.grownBy w3 (some w.heap.size) → Rep w3 r' (n + 1) ∧ Eff w w3 r r') := fun w2 w3 r' hE hR hg => rep_store hr hW1 (by simp) hE hR hg
  have HS : Hid (∀ w1 r', Eff (w.alloc (.cells #[.int .i64 0, .string ⟨#[]⟩] 47)) w1 r r' → w.heap.size < w1.heap.size) := fun w1 r' hE => by have := hE.size; simp at this; exact this
  clear hr hW1
  go_enter Tryz.func11, Tryz.ntmps11
  go_wp2_with (first | (go_at_call 31; refine hP.mono ?_; clear hP; rintro e w1 ⟨rfl, r', e1, e2, hR, hE⟩) | (go_at_call 30; refine (parts_nil _).mono ?_; rintro e w2 ⟨rfl, hb2⟩; obtain ⟨q1, q2, q3, q4⟩ := two_block (HE.out w1 r' hE) (hb2.block _ (HS.out w1 r' hE))))
  refine bodyPost_ret (v := .agg #[.int .i64 0, .string ⟨#[]⟩]) (by simp [results, Tryz.results11, go_sem, q1, q2]) rfl ?_
  obtain ⟨a1, a2⟩ := HF.out w2 _ r' (hE.then_below hb2) (hR.below (Nat.le_refl _) hb2) (set_two w2 w.heap.size _ _)
  exact ⟨rfl, r', e1, e2, a1, a2⟩

theorem putErr_range (nm f v : ByteArray) (h : (putErr nm f v).1 ≠ 0) : 1 ≤ (putErr nm f v).1 ∧ (putErr nm f v).1 ≤ 5 := by
  unfold putErr at *
  split at h
  · rename_i a; rw [if_pos a]; dsimp only; decide
  · rename_i a
    rw [if_neg a]
    split at h
    · rename_i b; rw [if_pos b]; dsimp only; decide
    · rename_i b
      rw [if_neg b]
      split at h
      · rename_i c; rw [if_pos c]; dsimp only; decide
      · exact absurd rfl h

theorem store_two {w w2 : World} {b : Nat} (hb : Below b w w2) (u v : Value) : Below b w ((w2.setCell ⟨b, 0, none⟩ u).setCell ⟨b, 1, none⟩ v) :=
  (hb.setCell (p := ⟨b, 0, none⟩) (Nat.le_refl _) _).setCell (p := ⟨b, 1, none⟩) (Nat.le_refl _) _

theorem errT_below {w w' : World} (h : ErrT w) (hb : Below w.heap.size w w') : ErrT w' := below_keep hb (lt_of_cell h) h

set_option maxRecDepth 100000 in
set_option maxHeartbeats 1000000 in
theorem putP_no (p pw g i len cap : Nat) (nm f v : ByteArray) (w : World) (hA : AtI w pw g i len cap p) (hg : ErrT w) (h1 : nm.size ≤ maxLen) (h2 : f.size ≤ maxLen) (h3 : v.size ≤ maxLen) (h : (putErr nm f v).1 ≠ 0) :
    Calls Tryz.prog 11 #[.pointer (some ⟨pw, 0, none⟩), .int .i64 i, .string nm, .string f, .string v] w
      fun e w' => e = .returned (.agg #[.int .i64 (putErr nm f v).1, .string (putErr nm f v).2]) ∧ Below w.heap.size w w' := by
  obtain ⟨hw, hi, hlen, hp⟩ := hA
  have l1 := lt_of_cell hw
  have l2 := lt_of_cell hp
  obtain ⟨r1, r2⟩ := putErr_range nm f v h
  have hP := putC_no p nm f v (w.alloc (.cells #[.int .i64 0, .string ⟨#[]⟩] 47)) h1 h2 h3 h
  obtain ⟨en, hen⟩ : ∃ en, (putErr nm f v).1 = en := ⟨_, rfl⟩
  obtain ⟨es, hes⟩ : ∃ es, (putErr nm f v).2 = es := ⟨_, rfl⟩
  rw [hen, hes] at hP
  rw [hen] at r1 r2
  rw [hen, hes]
  have hb : Below w.heap.size w ((w.alloc (.cells #[.int .i64 0, .string ⟨#[]⟩] 47)).alloc (.cells #[.int .i64 en, .string es] 115)) := ((Below.refl _ _).alloc (Nat.le_refl _) _).alloc (by simp) _
  obtain ⟨X, hX⟩ : ∃ X, ((w.alloc (.cells #[.int .i64 0, .string ⟨#[]⟩] 47)).alloc (.cells #[.int .i64 en, .string es] 115)) = X := ⟨_, rfl⟩
  have x0 : X.cell? ⟨w.heap.size + 1, 0, none⟩ = some (.int .i64 en) := by rw [← hX]; simp
  have x1 : X.cell? ⟨w.heap.size + 1, 0 + 1, none⟩ = some (.string es) := by rw [← hX]; simp
  have x2 : two X w.heap.size := by rw [← hX]; exact two_block (two_new w _) (Below.heap_alloc _ _ _ (by simp))
  have x3 : w.heap.size < X.heap.size := by rw [← hX]; simp; omega
  rw [hX] at hP hb
  have hT := parts_hit (w.heap.size + 1) 0 en es X (errT_below hg hb) r1 r2 x0 x1
  have HB : Hid (Below w.heap.size w X) := hb
  have HT2 : Hid (two X w.heap.size) := x2
  clear hb hX x2 hg h hen hes
  go_enter Tryz.func11, Tryz.ntmps11
  go_wp2_with (first | (go_at_call 31; refine hP.mono ?_; clear hP; rintro e w1 ⟨rfl, rfl⟩; simp only [World.size_alloc]) | (go_at_call 30; refine hT.mono ?_; clear hT; rintro e w2 ⟨rfl, hb2⟩; obtain ⟨q1, q2, q3, q4⟩ := two_block HT2.out (hb2.block _ x3)))
  refine bodyPost_ret (v := .agg #[.int .i64 en, .string es]) (by simp [results, Tryz.results11, go_sem, q1, q2]) rfl ?_
  exact ⟨rfl, store_two (HB.out.trans (hb2.mono (Nat.le_of_lt x3))) _ _⟩

set_option maxRecDepth 100000 in
set_option maxHeartbeats 1000000 in
theorem delP_ok (r : RD) (n pw g i len cap : Nat) (nm : ByteArray) (w : World) (hA : AtI w pw g i len cap r.p) (hr : Rep w r n) (hn : n < 100000) (h1 : nm.size ≤ 100) (b1 : smallB nm 8 = true) (b2 : (fieldsL r.l nm).length ≠ 0) :
    Calls Tryz.prog 13 #[.pointer (some ⟨pw, 0, none⟩), .int .i64 i, .string nm] w
      fun e w' => e = .returned (.agg #[.int .i64 0, .string ⟨#[]⟩]) ∧ ∃ r', r'.id = r.id ∧ r'.l = withL r.l (delReg r.l r.id nm) ∧ Rep w' r' (n + 1) ∧ Eff w w' r r' := by
  obtain ⟨hw, hi, hlen, hp⟩ := hA
  have l1 := lt_of_cell hw
  have l2 := lt_of_cell hp
  have hW1 : Below w.heap.size w (w.alloc (.cells #[.int .i64 0, .string ⟨#[]⟩] 47)) := (Below.refl _ _).alloc (Nat.le_refl _) _
  have hP := delC_ok r n nm (w.alloc (.cells #[.int .i64 0, .string ⟨#[]⟩] 47)) (hr.below (Nat.le_refl _) hW1) hn h1 b1 b2
  have HE : Hid (∀ w1 r', Eff (w.alloc (.cells #[.int .i64 0, .string ⟨#[]⟩] 47)) w1 r r' → two w1 w.heap.size) := fun w1 r' hE => eff_two hr (by simp) hE (two_new w _)
  have HF : Hid (∀ w2 w3 r', Eff (w.alloc (.cells #[.int .i64 0, .string ⟨#[]⟩] 47)) w2 r r' → Rep w2 r' (n + 1) → w2.grownBy w3 (some w.heap.size) → Rep w3 r' (n + 1) ∧ Eff w w3 r r') := fun w2 w3 r' hE hR hg => rep_store hr hW1 (by simp) hE hR hg
  have HS : Hid (∀ w1 r', Eff (w.alloc (.cells #[.int .i64 0, .string ⟨#[]⟩] 47)) w1 r r' → w.heap.size < w1.heap.size) := fun w1 r' hE => by have := hE.size; simp at this; exact this
  clear hr hW1 b2
  go_enter Tryz.func13, Tryz.ntmps13
  go_wp2_with (first | (go_at_call 32; refine hP.mono ?_; clear hP; rintro e w1 ⟨rfl, r', e1, e2, hR, hE⟩) | (go_at_call 30; refine (parts_nil _).mono ?_; rintro e w2 ⟨rfl, hb2⟩; obtain ⟨q1, q2, q3, q4⟩ := two_block (HE.out w1 r' hE) (hb2.block _ (HS.out w1 r' hE))))
  refine bodyPost_ret (v := .agg #[.int .i64 0, .string ⟨#[]⟩]) (by simp [results, Tryz.results13, go_sem, q1, q2]) rfl ?_
  obtain ⟨a1, a2⟩ := HF.out w2 _ r' (hE.then_below hb2) (hR.below (Nat.le_refl _) hb2) (set_two w2 w.heap.size _ _)
  exact ⟨rfl, r', e1, e2, a1, a2⟩

/-- Delete, refused: what the two ways have in common -/
theorem delC_no (r : RD) (n : Nat) (nm : ByteArray) (w : World) (hr : Rep w r n) (h1 : nm.size ≤ maxLen) (hno : smallB nm 8 = false ∨ (fieldsL r.l nm).length = 0) :
    Calls Tryz.prog 32 #[.pointer (some ⟨r.p, 0, none⟩), .string nm] w
      fun e w' => ∃ b, w.heap.size ≤ b ∧ e = .returned (.iface 110 (.pointer (some ⟨b, 0, none⟩))) ∧ w'.cell? ⟨b, 0, none⟩ = some (.int .i64 (if smallB nm 8 = false then 1 else 4)) ∧ w'.cell? ⟨b, 0 + 1, none⟩ = some (.string nm) ∧ Below w.heap.size w w' := by
  cases hb : smallB nm 8
  · refine (delC_no1 r.p nm w h1 hb).mono ?_
    rintro e w' ⟨rfl, rfl⟩
    exact ⟨_, Nat.le_refl _, rfl, by simp, by simp, (Below.refl _ _).alloc (Nat.le_refl _) _⟩
  · refine (delC_no4 r n nm w hr h1 hb (by rcases hno with h | h; rw [hb] at h; cases h; exact h)).mono ?_
    rintro e w' ⟨b, q1, q2, q3, q4, q5⟩
    exact ⟨b, q1, q2, by simpa using q3, by simpa using q4, q5⟩

set_option maxRecDepth 100000 in
set_option maxHeartbeats 1000000 in
theorem delP_no (r : RD) (n pw g i len cap : Nat) (nm : ByteArray) (w : World) (hA : AtI w pw g i len cap r.p) (hg : ErrT w) (hr : Rep w r n) (h1 : nm.size ≤ maxLen) (hno : smallB nm 8 = false ∨ (fieldsL r.l nm).length = 0) :
    Calls Tryz.prog 13 #[.pointer (some ⟨pw, 0, none⟩), .int .i64 i, .string nm] w
      fun e w' => e = .returned (.agg #[.int .i64 (if smallB nm 8 = false then 1 else 4), .string nm]) ∧ Below w.heap.size w w' := by
  obtain ⟨hw, hi, hlen, hp⟩ := hA
  have l1 := lt_of_cell hw
  have l2 := lt_of_cell hp
  have hW1 : Below w.heap.size w (w.alloc (.cells #[.int .i64 0, .string ⟨#[]⟩] 47)) := (Below.refl _ _).alloc (Nat.le_refl _) _
  have hP := delC_no r n nm (w.alloc (.cells #[.int .i64 0, .string ⟨#[]⟩] 47)) (hr.below (Nat.le_refl _) hW1) h1 hno
  obtain ⟨en, hen⟩ : ∃ en : Int, (if smallB nm 8 = false then 1 else 4) = en := ⟨_, rfl⟩
  have r1 : 1 ≤ en ∧ en ≤ 5 := by rw [← hen]; split <;> decide
  rw [hen] at hP ⊢
  have HT : Hid (∀ X b, Below w.heap.size w X → X.cell? ⟨b, 0, none⟩ = some (.int .i64 en) → X.cell? ⟨b, 0 + 1, none⟩ = some (.string nm) → Calls Tryz.prog 30 #[.iface 110 (.pointer (some ⟨b, 0, none⟩))] X fun ev w' => ev = .returned (.agg #[.int .i64 en, .string nm]) ∧ Below X.heap.size X w') := fun X b hb a1 a2 => parts_hit b 0 en nm X (errT_below hg hb) r1.1 r1.2 a1 a2
  have HB : Hid (Below w.heap.size w (w.alloc (.cells #[.int .i64 0, .string ⟨#[]⟩] 47))) := hW1
  have HT2 : Hid (two (w.alloc (.cells #[.int .i64 0, .string ⟨#[]⟩] 47)) w.heap.size) := two_new w _
  have hsz : w.heap.size < (w.alloc (.cells #[.int .i64 0, .string ⟨#[]⟩] 47)).heap.size := by simp
  have HSZ : Hid (w.heap.size < (w.alloc (.cells #[.int .i64 0, .string ⟨#[]⟩] 47)).heap.size) := hsz
  clear hr hW1 hg hen hsz hno
  go_enter Tryz.func13, Tryz.ntmps13
  go_wp2_with (first | (go_at_call 32; refine hP.mono ?_; clear hP; rintro e w1 ⟨b, hbb, rfl, x0, x1, hb1⟩) | (go_at_call 30; refine (HT.out w1 b (HB.out.trans (hb1.mono (Nat.le_of_lt HSZ.out))) x0 x1).mono ?_; rintro e w2 ⟨rfl, hb2⟩; obtain ⟨q1, q2, q3, q4⟩ := two_block (two_block HT2.out (hb1.block _ HSZ.out)) (hb2.block _ (Nat.lt_of_lt_of_le HSZ.out hb1.size))))
  refine bodyPost_ret (v := .agg #[.int .i64 en, .string nm]) (by simp [results, Tryz.results13, go_sem, q1, q2]) rfl ?_
  have hB1 : Below w.heap.size w w1 := HB.out.trans (hb1.mono (Nat.le_of_lt HSZ.out))
  exact ⟨rfl, store_two (hB1.trans (hb2.mono hB1.size)) _ _⟩
end Go.Proofs.YtdfafhclhfijnaaGreatDoor
