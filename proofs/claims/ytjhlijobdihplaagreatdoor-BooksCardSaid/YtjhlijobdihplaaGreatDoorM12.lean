import Derived.Test.YtjhlijobdihplaaGreatDoorM11
import Derived.Test.YtjhlijobdihplaaGreatDoorM02
namespace Go.Proofs.YtjhlijobdihplaaGreatDoor
open Go.RowKit Go.Maps Go.Shelf

/-- the global that errors.As reads -/
def ErrT (w : World) : Prop := w.cell? ⟨0, 0, none⟩ = some (.iface 159 (.agg #[.pointer (some ⟨5, 74, none⟩)]))

/-- the i-th replica of plain's world, as its calls find it -/
structure AtI (w : World) (pw g i len cap p : Nat) : Prop where
  hw : w.cell? ⟨pw, 0, none⟩ = some (.slice (some ⟨g, 0, none⟩) len cap)
  hi : i < len
  hlen : len ≤ 100000
  hp : w.cell? ⟨g, i, none⟩ = some (.pointer (some ⟨p, 0, none⟩))

set_option maxHeartbeats 400000 in
theorem newC_any (id : Int) (w : World) :
    Calls Tryz.prog 28 #[.int .i64 id] w fun e w' => e = .returned (.pointer (some ⟨w.heap.size, 0, none⟩)) ∧ w' = w.alloc (.cells #[.int .i64 id, .map none] 108) := by
  go_enter Tryz.func28, Tryz.ntmps28
  go_wp2
  go_ret
  exact ⟨rfl, rfl⟩

/-- the result's two cells -/
def two (w : World) (b : Nat) : Prop := w.cell? ⟨b, 0, none⟩ = some (.int .i64 0) ∧ w.cell? ⟨b, 1, none⟩ = some (.string ⟨#[]⟩) ∧ w.frozen? ⟨b, 0, none⟩ = false ∧ w.frozen? ⟨b, 1, none⟩ = false
theorem two_block {w w' : World} {b : Nat} (h : two w b) (hb : w'.heap[b]? = w.heap[b]?) : two w' b :=
  ⟨(World.cell?_of_block (w := w) (a := ⟨b, 0, none⟩) hb).trans h.1, (World.cell?_of_block (w := w) (a := ⟨b, 1, none⟩) hb).trans h.2.1, (World.frozen?_of_block (w := w) (a := ⟨b, 0, none⟩) hb).trans h.2.2.1, (World.frozen?_of_block (w := w) (a := ⟨b, 1, none⟩) hb).trans h.2.2.2⟩
theorem two_new (w : World) (t : TypeId) : two (w.alloc (.cells #[.int .i64 0, .string ⟨#[]⟩] t)) w.heap.size := ⟨by simp, by simp, by simp, by simp⟩

theorem set_two (w : World) (b : Nat) (u v : Value) : w.grownBy ((w.setCell ⟨b, 0, none⟩ u).setCell ⟨b, 1, none⟩ v) (some b) :=
  ⟨rfl, rfl, rfl, by simp [World.setCell], fun k _ hne => by
    have : k ≠ b := fun e => hne (by rw [e])
    rw [Below.heap_setCell _ _ _ k this, Below.heap_setCell _ _ _ k this]⟩

/-- behind the store of the result -/
theorem rep_store {w W1 w2 w3 : World} {r r' : RD} {n m : Nat} (hr : Rep w r n) (hb1 : Below w.heap.size w W1) (hs1 : w.heap.size < W1.heap.size) (hE : Eff W1 w2 r r') (hR : Rep w2 r' m) (hg : w2.grownBy w3 (some w.heap.size)) : Rep w3 r' m ∧ Eff w w3 r r' := by
  have hlt := hr.lt
  have hp := hE.hp
  have hf : ∀ k, r'.foot k → k ≠ w.heap.size := fun k hk e => by
    rcases hE.foot k hk with h | h
    · have := foot_lt hr h; omega
    · omega
  refine ⟨hR.keep (Nat.le_refl _) (hg.block _ hR.lt (fun e => by have := Option.some.inj e; omega)) (fun k hk => hg.block k (foot_lt hR hk) (fun e => hf k hk (Option.some.inj e))), ?_⟩
  have hE2 := Eff.after_below hb1 hE
  exact ⟨hg.os.trans hE2.os, hg.tape.trans hE2.tape, hg.output.trans hE2.output, Nat.le_trans hE2.size hg.size, fun k hk a b => (hg.block k (Nat.lt_of_lt_of_le hk hE2.size) (fun e => by have := Option.some.inj e; omega)).trans (hE2.block k hk a b), hE2.foot, hE2.hp⟩

theorem eff_two {w W1 w2 : World} {r r' : RD} {n : Nat} (hr : Rep w r n) (hs1 : w.heap.size < W1.heap.size) (hE : Eff W1 w2 r r') (h : two W1 w.heap.size) : two w2 w.heap.size :=
  two_block h (hE.block _ hs1 (by have := hr.lt; omega) (fun hk => by have := foot_lt hr hk; omega))

set_option maxRecDepth 100000 in
set_option maxHeartbeats 1000000 in
theorem putP_ok (r : RD) (n pw g i len cap : Nat) (nm f v : ByteArray) (w : World) (hA : AtI w pw g i len cap r.p) (hr : Rep w r n) (hn : n < 100000) (h1 : nm.size ≤ 100) (h2 : f.size ≤ maxLen) (h3 : v.size ≤ maxLen) (b1 : smallB nm 8 = true) (b2 : smallB f 4 = true) (b3 : (v.size : Int) ≤ 20) :
    Calls Tryz.prog 13 #[.pointer (some ⟨pw, 0, none⟩), .int .i64 i, .string nm, .string f, .string v] w
      fun e w' => e = .returned (.agg #[.int .i64 0, .string ⟨#[]⟩]) ∧ ∃ r', r'.id = r.id ∧ r'.l = withL r.l (putReg r.l r.id nm f v) ∧ Rep w' r' (n + 1) ∧ Eff w w' r r' := by
  obtain ⟨hw, hi, hlen, hp⟩ := hA
  have l1 := lt_of_cell hw
  have l2 := lt_of_cell hp
  have hW1 : Below w.heap.size w (w.alloc (.cells #[.int .i64 0, .string ⟨#[]⟩] 47)) := (Below.refl _ _).alloc (Nat.le_refl _) _
  have hP := putC_ok r n nm f v (w.alloc (.cells #[.int .i64 0, .string ⟨#[]⟩] 47)) (hr.below (Nat.le_refl _) hW1) hn h1 h2 h3 b1 b2 b3
  have HE : Hid (∀ w1 r', Eff (w.alloc (.cells #[.int .i64 0, .string ⟨#[]⟩] 47)) w1 r r' → two w1 w.heap.size) := fun w1 r' hE => eff_two hr (by simp) hE (two_new w _)
  have HF : Hid (∀ w2 w3 r', Eff (w.alloc (.cells #[.int .i64 0, .string ⟨#[]⟩] 47)) w2 r r' → Rep w2 r' (n + 1) → w2.grownBy w3 (some w.heap.size) → Rep w3 r' (n + 1) ∧ Eff w w3 r r') := fun w2 w3 r' hE hR hg => rep_store hr hW1 (by simp) hE hR hg
  have HS : Hid (∀ w1 r', Eff (w.alloc (.cells #[.int .i64 0, .string ⟨#[]⟩] 47)) w1 r r' → w.heap.size < w1.heap.size) := fun w1 r' hE => by have := hE.size; simp at this; exact this
  clear hr hW1
  go_enter Tryz.func13, Tryz.ntmps13
  go_wp2_with (first | (go_at_call 33; refine hP.mono ?_; clear hP; rintro e w1 ⟨rfl, r', e1, e2, hR, hE⟩) | (go_at_call 32; refine (parts_nil _).mono ?_; rintro e w2 ⟨rfl, hb2⟩; obtain ⟨q1, q2, q3, q4⟩ := two_block (HE.out w1 r' hE) (hb2.block _ (HS.out w1 r' hE))))
  refine bodyPost_ret (v := .agg #[.int .i64 0, .string ⟨#[]⟩]) (by simp [results, Tryz.results13, go_sem, q1, q2]) rfl ?_
  obtain ⟨a1, a2⟩ := HF.out w2 _ r' (hE.then_below hb2) (hR.below (Nat.le_refl _) hb2) (set_two w2 w.heap.size _ _)
  exact ⟨rfl, r', e1, e2, a1, a2⟩

theorem putErr_range (nm f v : ByteArray) (h : (putErr nm f v).1 ≠ 0) : 1 ≤ (putErr nm f v).1 ∧ (putErr nm f v).1 ≤ 5 := by
  unfold putErr at *
  split at h
  · rename_i a; rw [if_pos a]; dsimp only; decide
  · rename_i a
    rw [if_neg a]
    split at h
    · rename_i b; rw [if_pos b]; dsimp only; decide
    · rename_i b
      rw [if_neg b]
      split at h
      · rename_i c; rw [if_pos c]; dsimp only; decide
      · exact absurd rfl h

theorem store_two {w w2 : World} {b : Nat} (hb : Below b w w2) (u v : Value) : Below b w ((w2.setCell ⟨b, 0, none⟩ u).setCell ⟨b, 1, none⟩ v) :=
  (hb.setCell (p := ⟨b, 0, none⟩) (Nat.le_refl _) _).setCell (p := ⟨b, 1, none⟩) (Nat.le_refl _) _

theorem errT_below {w w' : World} (h : ErrT w) (hb : Below w.heap.size w w') : ErrT w' := below_keep hb (lt_of_cell h) h

set_option maxRecDepth 100000 in
set_option maxHeartbeats 1000000 in
theorem putP_no (p pw g i len cap : Nat) (nm f v : ByteArray) (w : World) (hA : AtI w pw g i len cap p) (hg : ErrT w) (h1 : nm.size ≤ maxLen) (h2 : f.size ≤ maxLen) (h3 : v.size ≤ maxLen) (h : (putErr nm f v).1 ≠ 0) :
    Calls Tryz.prog 13 #[.pointer (some ⟨pw, 0, none⟩), .int .i64 i, .string nm, .string f, .string v] w
      fun e w' => e = .returned (.agg #[.int .i64 (putErr nm f v).1, .string (putErr nm f v).2]) ∧ Below w.heap.size w w' := by
  obtain ⟨hw, hi, hlen, hp⟩ := hA
  have l1 := lt_of_cell hw
  have l2 := lt_of_cell hp
  obtain ⟨r1, r2⟩ := putErr_range nm f v h
  have hP := putC_no p nm f v (w.alloc (.cells #[.int .i64 0, .string ⟨#[]⟩] 47)) h1 h2 h3 h
  obtain ⟨en, hen⟩ : ∃ en, (putErr nm f v).1 = en := ⟨_, rfl⟩
  obtain ⟨es, hes⟩ : ∃ es, (putErr nm f v).2 = es := ⟨_, rfl⟩
  rw [hen, hes] at hP
  rw [hen] at r1 r2
  rw [hen, hes]
  have hb : Below w.heap.size w ((w.alloc (.cells #[.int .i64 0, .string ⟨#[]⟩] 47)).alloc (.cells #[.int .i64 en, .string es] 115)) := ((Below.refl _ _).alloc (Nat.le_refl _) _).alloc (by simp) _
  obtain ⟨X, hX⟩ : ∃ X, ((w.alloc (.cells #[.int .i64 0, .string ⟨#[]⟩] 47)).alloc (.cells #[.int .i64 en, .string es] 115)) = X := ⟨_, rfl⟩
  have x0 : X.cell? ⟨w.heap.size + 1, 0, none⟩ = some (.int .i64 en) := by rw [← hX]; simp
  have x1 : X.cell? ⟨w.heap.size + 1, 0 + 1, none⟩ = some (.string es) := by rw [← hX]; simp
  have x2 : two X w.heap.size := by rw [← hX]; exact two_block (two_new w _) (Below.heap_alloc _ _ _ (by simp))
  have x3 : w.heap.size < X.heap.size := by rw [← hX]; simp; omega
  rw [hX] at hP hb
  have hT := parts_hit (w.heap.size + 1) 0 en es X (errT_below hg hb) r1 r2 x0 x1
  have HB : Hid (Below w.heap.size w X) := hb
  have HT2 : Hid (two X w.heap.size) := x2
  clear hb hX x2 hg h hen hes
  go_enter Tryz.func13, Tryz.ntmps13
  go_wp2_with (first | (go_at_call 33; refine hP.mono ?_; clear hP; rintro e w1 ⟨rfl, rfl⟩; simp only [World.size_alloc]) | (go_at_call 32; refine hT.mono ?_; clear hT; rintro e w2 ⟨rfl, hb2⟩; obtain ⟨q1, q2, q3, q4⟩ := two_block HT2.out (hb2.block _ x3)))
  refine bodyPost_ret (v := .agg #[.int .i64 en, .string es]) (by simp [results, Tryz.results13, go_sem, q1, q2]) rfl ?_
  exact ⟨rfl, store_two (HB.out.trans (hb2.mono (Nat.le_of_lt x3))) _ _⟩

set_option maxRecDepth 100000 in
set_option maxHeartbeats 1000000 in
theorem delP_ok (r : RD) (n pw g i len cap : Nat) (nm : ByteArray) (w : World) (hA : AtI w pw g i len cap r.p) (hr : Rep w r n) (hn : n < 100000) (h1 : nm.size ≤ 100) (b1 : smallB nm 8 = true) (b2 : (fieldsL r.l nm).length ≠ 0) :
    Calls Tryz.prog 15 #[.pointer (some ⟨pw, 0, none⟩), .int .i64 i, .string nm] w
      fun e w' => e = .returned (.agg #[.int .i64 0, .string ⟨#[]⟩]) ∧ ∃ r', r'.id = r.id ∧ r'.l = withL r.l (delReg r.l r.id nm) ∧ Rep w' r' (n + 1) ∧ Eff w w' r r' := by
  obtain ⟨hw, hi, hlen, hp⟩ := hA
  have l1 := lt_of_cell hw
  have l2 := lt_of_cell hp
  have hW1 : Below w.heap.size w (w.alloc (.cells #[.int .i64 0, .string ⟨#[]⟩] 47)) := (Below.refl _ _).alloc (Nat.le_refl _) _
  have hP := delC_ok r n nm (w.alloc (.cells #[.int .i64 0, .string ⟨#[]⟩] 47)) (hr.below (Nat.le_refl _) hW1) hn h1 b1 b2
  have HE : Hid (∀ w1 r', Eff (w.alloc (.cells #[.int .i64 0, .string ⟨#[]⟩] 47)) w1 r r' → two w1 w.heap.size) := fun w1 r' hE => eff_two hr (by simp) hE (two_new w _)
  have HF : Hid (∀ w2 w3 r', Eff (w.alloc (.cells #[.int .i64 0, .string ⟨#[]⟩] 47)) w2 r r' → Rep w2 r' (n + 1) → w2.grownBy w3 (some w.heap.size) → Rep w3 r' (n + 1) ∧ Eff w w3 r r') := fun w2 w3 r' hE hR hg => rep_store hr hW1 (by simp) hE hR hg
  have HS : Hid (∀ w1 r', Eff (w.alloc (.cells #[.int .i64 0, .string ⟨#[]⟩] 47)) w1 r r' → w.heap.size < w1.heap.size) := fun w1 r' hE => by have := hE.size; simp at this; exact this
  clear hr hW1 b2
  go_enter Tryz.func15, Tryz.ntmps15
  go_wp2_with (first | (go_at_call 34; refine hP.mono ?_; clear hP; rintro e w1 ⟨rfl, r', e1, e2, hR, hE⟩) | (go_at_call 32; refine (parts_nil _).mono ?_; rintro e w2 ⟨rfl, hb2⟩; obtain ⟨q1, q2, q3, q4⟩ := two_block (HE.out w1 r' hE) (hb2.block _ (HS.out w1 r' hE))))
  refine bodyPost_ret (v := .agg #[.int .i64 0, .string ⟨#[]⟩]) (by simp [results, Tryz.results15, go_sem, q1, q2]) rfl ?_
  obtain ⟨a1, a2⟩ := HF.out w2 _ r' (hE.then_below hb2) (hR.below (Nat.le_refl _) hb2) (set_two w2 w.heap.size _ _)
  exact ⟨rfl, r', e1, e2, a1, a2⟩

/-- Delete, refused: what the two ways have in common -/
theorem delC_no (r : RD) (n : Nat) (nm : ByteArray) (w : World) (hr : Rep w r n) (h1 : nm.size ≤ maxLen) (hno : smallB nm 8 = false ∨ (fieldsL r.l nm).length = 0) :
    Calls Tryz.prog 34 #[.pointer (some ⟨r.p, 0, none⟩), .string nm] w
      fun e w' => ∃ b, w.heap.size ≤ b ∧ e = .returned (.iface 110 (.pointer (some ⟨b, 0, none⟩))) ∧ w'.cell? ⟨b, 0, none⟩ = some (.int .i64 (if smallB nm 8 = false then 1 else 4)) ∧ w'.cell? ⟨b, 0 + 1, none⟩ = some (.string nm) ∧ Below w.heap.size w w' := by
  cases hb : smallB nm 8
  · refine (delC_no1 r.p nm w h1 hb).mono ?_
    rintro e w' ⟨rfl, rfl⟩
    exact ⟨_, Nat.le_refl _, rfl, by simp, by simp, (Below.refl _ _).alloc (Nat.le_refl _) _⟩
  · refine (delC_no4 r n nm w hr h1 hb (by rcases hno with h | h; rw [hb] at h; cases h; exact h)).mono ?_
    rintro e w' ⟨b, q1, q2, q3, q4, q5⟩
    exact ⟨b, q1, q2, by simpa using q3, by simpa using q4, q5⟩

set_option maxRecDepth 100000 in
set_option maxHeartbeats 1000000 in
theorem delP_no (r : RD) (n pw g i len cap : Nat) (nm : ByteArray) (w : World) (hA : AtI w pw g i len cap r.p) (hg : ErrT w) (hr : Rep w r n) (h1 : nm.size ≤ maxLen) (hno : smallB nm 8 = false ∨ (fieldsL r.l nm).length = 0) :
    Calls Tryz.prog 15 #[.pointer (some ⟨pw, 0, none⟩), .int .i64 i, .string nm] w
      fun e w' => e = .returned (.agg #[.int .i64 (if smallB nm 8 = false then 1 else 4), .string nm]) ∧ Below w.heap.size w w' := by
  obtain ⟨hw, hi, hlen, hp⟩ := hA
  have l1 := lt_of_cell hw
  have l2 := lt_of_cell hp
  have hW1 : Below w.heap.size w (w.alloc (.cells #[.int .i64 0, .string ⟨#[]⟩] 47)) := (Below.refl _ _).alloc (Nat.le_refl _) _
  have hP := delC_no r n nm (w.alloc (.cells #[.int .i64 0, .string ⟨#[]⟩] 47)) (hr.below (Nat.le_refl _) hW1) h1 hno
  obtain ⟨en, hen⟩ : ∃ en : Int, (if smallB nm 8 = false then 1 else 4) = en := ⟨_, rfl⟩
  have r1 : 1 ≤ en ∧ en ≤ 5 := by rw [← hen]; split <;> decide
  rw [hen] at hP ⊢
  have HT : Hid (∀ X b, Below w.heap.size w X → X.cell? ⟨b, 0, none⟩ = some (.int .i64 en) → X.cell? ⟨b, 0 + 1, none⟩ = some (.string nm) → Calls Tryz.prog 32 #[.iface 110 (.pointer (some ⟨b, 0, none⟩))] X fun ev w' => ev = .returned (.agg #[.int .i64 en, .string nm]) ∧ Below X.heap.size X w') := fun X b hb a1 a2 => parts_hit b 0 en nm X (errT_below hg hb) r1.1 r1.2 a1 a2
  have HB : Hid (Below w.heap.size w (w.alloc (.cells #[.int .i64 0, .string ⟨#[]⟩] 47))) := hW1
  have HT2 : Hid (two (w.alloc (.cells #[.int .i64 0, .string ⟨#[]⟩] 47)) w.heap.size) := two_new w _
  have hsz : w.heap.size < (w.alloc (.cells #[.int .i64 0, .string ⟨#[]⟩] 47)).heap.size := by simp
  have HSZ : Hid (w.heap.size < (w.alloc (.cells #[.int .i64 0, .string ⟨#[]⟩] 47)).heap.size) := hsz
  clear hr hW1 hg hen hsz hno
  go_enter Tryz.func15, Tryz.ntmps15
  go_wp2_with (first | (go_at_call 34; refine hP.mono ?_; clear hP; rintro e w1 ⟨b, hbb, rfl, x0, x1, hb1⟩) | (go_at_call 32; refine (HT.out w1 b (HB.out.trans (hb1.mono (Nat.le_of_lt HSZ.out))) x0 x1).mono ?_; rintro e w2 ⟨rfl, hb2⟩; obtain ⟨q1, q2, q3, q4⟩ := two_block (two_block HT2.out (hb1.block _ HSZ.out)) (hb2.block _ (Nat.lt_of_lt_of_le HSZ.out hb1.size))))
  refine bodyPost_ret (v := .agg #[.int .i64 en, .string nm]) (by simp [results, Tryz.results15, go_sem, q1, q2]) rfl ?_
  have hB1 : Below w.heap.size w w1 := HB.out.trans (hb1.mono (Nat.le_of_lt HSZ.out))
  exact ⟨rfl, store_two (hB1.trans (hb2.mono hB1.size)) _ _⟩
end Go.Proofs.YtjhlijobdihplaaGreatDoor
namespace Go.Proofs.YtjhlijobdihplaaGreatDoor
open Go.RowKit Go.Maps Go.Shelf

def upd {α : Type} (f : Nat → α) (i : Nat) (x : α) : Nat → α := fun j => if j = i then x else f j
theorem upd_same {α : Type} (f : Nat → α) (i : Nat) (x : α) : upd f i x i = x := by simp [upd]
theorem upd_other {α : Type} (f : Nat → α) {i j : Nat} (x : α) (h : j ≠ i) : upd f i x j = f j := by simp [upd, h]

def ptrs (f : Nat → Nat) (N : Nat) : List Value := (List.range N).map fun i => .pointer (some ⟨f i, 0, none⟩)
theorem ptrs_len (f : Nat → Nat) (N : Nat) : (ptrs f N).length = N := by simp [ptrs]
theorem ptrs_succ (f : Nat → Nat) (N : Nat) : ptrs f (N + 1) = ptrs f N ++ [.pointer (some ⟨f N, 0, none⟩)] := by simp [ptrs, List.range_succ]
theorem ptrs_congr {f g : Nat → Nat} {N : Nat} (h : ∀ i, i < N → f i = g i) : ptrs f N = ptrs g N := by
  unfold ptrs
  refine List.map_congr_left fun i hi => ?_
  rw [h i (List.mem_range.1 hi)]
theorem ptrs_get (f : Nat → Nat) {N i : Nat} (h : i < N) : (ptrs f N)[i]? = some (.pointer (some ⟨f i, 0, none⟩)) := by simp [ptrs, h]
theorem ptrs_one (f : Nat → Nat) (N : Nat) : ∀ u ∈ ptrs f N, u.oneCell' = true := by
  intro u hu
  obtain ⟨i, _, rfl⟩ := List.mem_map.1 hu
  rfl

/-- cells, but for those of the types S, lie as they lay -/
structure KeepCells (S : List TypeId) (w w' : World) : Prop where
  size : w.heap.size ≤ w'.heap.size
  same : ∀ (k : Nat) (cs : Array Value) (t : TypeId) (f : Nat × Nat), w.heap[k]? = some (.cells cs t f) → t ∉ S → w'.heap[k]? = w.heap[k]?
/-- whatever is no cells, too -/
structure KeepTy (S : List TypeId) (w w' : World) : Prop where
  size : w.heap.size ≤ w'.heap.size
  same : ∀ k, k < w.heap.size → (∀ (cs : Array Value) (t : TypeId) (f : Nat × Nat), w.heap[k]? = some (.cells cs t f) → t ∉ S) → w'.heap[k]? = w.heap[k]?
theorem KeepTy.cells {S : List TypeId} {w w' : World} (h : KeepTy S w w') : KeepCells S w w' :=
  ⟨h.size, fun k cs t f hk ht => h.same k (Array.getElem?_eq_some_iff.1 hk).1 (fun cs' t' f' h' => by rw [hk] at h'; cases h'; exact ht)⟩
theorem KeepCells.of_below {S : List TypeId} {w w' : World} (h : Below w.heap.size w w') : KeepCells S w w' :=
  ⟨h.size, fun k _ _ _ hk _ => h.block k (Array.getElem?_eq_some_iff.1 hk).1⟩
theorem KeepTy.of_below {S : List TypeId} {w w' : World} (h : Below w.heap.size w w') : KeepTy S w w' := ⟨h.size, fun k hk _ => h.block k hk⟩
theorem KeepCells.trans {S S' : List TypeId} {a b c : World} (h : KeepCells S a b) (k : KeepCells S' b c) : KeepCells (S ++ S') a c :=
  ⟨Nat.le_trans h.size k.size, fun i cs t f hi ht => by
    have h1 := h.same i cs t f hi (fun e => ht (List.mem_append_left _ e))
    exact (k.same i cs t f (h1.trans hi) (fun e => ht (List.mem_append_right _ e))).trans h1⟩
theorem KeepTy.trans {S S' : List TypeId} {a b c : World} (h : KeepTy S a b) (k : KeepTy S' b c) : KeepTy (S ++ S') a c :=
  ⟨Nat.le_trans h.size k.size, fun i hi ht => by
    have h1 := h.same i hi (fun cs t f e hm => ht cs t f e (List.mem_append_left _ hm))
    refine (k.same i (Nat.lt_of_lt_of_le hi h.size) (fun cs t f e hm => ?_)).trans h1
    rw [h1] at e
    exact ht cs t f e (List.mem_append_right _ hm)⟩
theorem KeepCells.of_eff {w w' : World} {r r' : RD} {n : Nat} (hr : Rep w r n) (h : Eff w w' r r') : KeepCells [108] w w' :=
  ⟨h.size, fun k cs t f hk ht => h.block k (Array.getElem?_eq_some_iff.1 hk).1 (fun e => by
    obtain ⟨cs', hcs'⟩ := hr.kind
    rw [e, hcs'] at hk; cases hk
    exact ht (by simp)) (fun hf => foot_no_cells hr hf _ _ _ hk)⟩

theorem row_keep {w w' : World} {base : Nat} {e : TypeId} {size : Nat} {v : Value} {n : Nat} {xs : List Value} {S : List TypeId} (h : w.ownsRow base e size v n xs) (hk : KeepCells S w w') (he : e ∉ S) : w'.ownsRow base e size v n xs := by
  refine ⟨h.1, ?_⟩
  rcases h.2 with h0 | ⟨g, cap, cur, q1, q2, q3, q4⟩
  · exact .inl h0
  · exact .inr ⟨g, cap, cur, q1, q2, (hk.same g _ _ _ q3 he).trans q3, q4⟩

/-- plain's world, and the replicas that it holds -/
structure PSt (base : Nat) (w : World) (pw N : Nat) (rs : Nat → RD) (n : Nat) : Prop where
  pwb : base ≤ pw
  hb : base ≤ w.heap.size
  plain : ∃ pa pc, w.heap[pw]? = some (.cells #[.slice pa N pc] 30 (0, 0)) ∧ w.ownsRow base 67 1 (.slice pa N pc) N (ptrs (fun i => (rs i).p) N)
  reps : ∀ i, i < N → Rep w (rs i) n
  repb : ∀ i, i < N → base ≤ (rs i).p ∧ ∀ k, (rs i).foot k → base ≤ k
  disj : ∀ i j, i < N → j < N → i ≠ j → (rs i).p ≠ (rs j).p ∧ ∀ k, (rs i).foot k → ¬ (rs j).foot k

/-- the law's world, and what it knows of each replica -/
structure LSt (base : Nat) (w : World) (lw pw N : Nat) (os : Nat → Nat) (ids : Nat → Int) (ls : Nat → List Reg) : Prop where
  lwb : base ≤ lw
  hb : base ≤ w.heap.size
  law : ∃ la lc, w.heap[lw]? = some (.cells #[.pointer (some ⟨pw, 0, none⟩), .slice la N lc] 33 (0, 0)) ∧ w.ownsRow base 39 1 (.slice la N lc) N (ptrs os N)
  ones : ∀ i, i < N → base ≤ os i ∧ ∃ bv, w.heap[os i]? = some (.cells #[.int .i64 (ids i), bv, .slice none 0 0, .slice none 0 0] 42 (0, 0)) ∧ Bk 57 w bv (ls i)
  dist : ∀ i j, i < N → j < N → i ≠ j → os i ≠ os j

theorem PSt.keep {base : Nat} {w w' : World} {pw N : Nat} {rs : Nat → RD} {n n' : Nat} {S : List TypeId} (h : PSt base w pw N rs n) (hn : n ≤ n') (hk : KeepTy S w w') (h1 : 30 ∉ S) (h2 : 67 ∉ S) (h3 : 108 ∉ S) : PSt base w' pw N rs n' where
  pwb := h.pwb
  hb := Nat.le_trans h.hb hk.size
  plain := by
    obtain ⟨pa, pc, a, b⟩ := h.plain
    exact ⟨pa, pc, (hk.cells.same _ _ _ _ a h1).trans a, row_keep b hk.cells h2⟩
  reps := fun i hi => by
    have hr := h.reps i hi
    obtain ⟨cs, hcs⟩ := hr.kind
    refine hr.keep hn (hk.cells.same _ _ _ _ hcs h3) (fun k hf => hk.same k (foot_lt hr hf) (fun cs t f e => absurd e (foot_no_cells hr hf cs t f)))
  repb := h.repb
  disj := h.disj

theorem LSt.keep {base : Nat} {w w' : World} {lw pw N : Nat} {os : Nat → Nat} {ids : Nat → Int} {ls : Nat → List Reg} {S : List TypeId} (h : LSt base w lw pw N os ids ls) (hk : KeepCells S w w') (h1 : 33 ∉ S) (h2 : 39 ∉ S) (h3 : 42 ∉ S) (h4 : 57 ∉ S) : LSt base w' lw pw N os ids ls where
  lwb := h.lwb
  hb := Nat.le_trans h.hb hk.size
  law := by
    obtain ⟨pa, pc, a, b⟩ := h.law
    exact ⟨pa, pc, (hk.same _ _ _ _ a h1).trans a, row_keep b hk h2⟩
  ones := fun i hi => by
    obtain ⟨a, bv, b, c⟩ := h.ones i hi
    exact ⟨a, bv, (hk.same _ _ _ _ b h3).trans b, row_keep c hk h4⟩
  dist := h.dist

/-- a replica was written into -/
theorem PSt.eff {base : Nat} {w w' : World} {pw N : Nat} {rs : Nat → RD} {n n' i : Nat} {r' : RD} (h : PSt base w pw N rs n) (hn : n ≤ n') (hi : i < N) (hE : Eff w w' (rs i) r') (hR : Rep w' r' n') : PSt base w' pw N (upd rs i r') n' where
  pwb := h.pwb
  hb := Nat.le_trans h.hb hE.size
  plain := by
    have hk := KeepCells.of_eff (h.reps i hi) hE
    obtain ⟨pa, pc, a, b⟩ := h.plain
    refine ⟨pa, pc, (hk.same _ _ _ _ a (by decide)).trans a, ?_⟩
    have := row_keep b hk (by decide)
    rw [ptrs_congr (g := fun j => (upd rs i r' j).p) (fun j hj => ?_)] at this
    · exact this
    · by_cases e : j = i
      · subst e; rw [upd_same, hE.hp]
      · rw [upd_other _ _ e]
  reps := fun j hj => by
    by_cases e : j = i
    · subst e; rw [upd_same]; exact hR
    · rw [upd_other _ _ e]
      obtain ⟨d1, d2⟩ := h.disj i j hi hj (fun e' => e e'.symm)
      have hri := h.reps i hi
      have hrj := h.reps j hj
      refine hrj.keep hn (hE.block _ hrj.lt (fun e' => d1 e'.symm) (fun hf => ?_)) (fun k hk => hE.block k (foot_lt hrj hk) (fun e' => ?_) (fun hf => d2 k hf hk))
      · obtain ⟨cs, hcs⟩ := hrj.kind
        exact foot_no_cells hri hf _ _ _ hcs
      · obtain ⟨cs, hcs⟩ := hri.kind
        exact foot_no_cells hrj (e' ▸ hk) _ _ _ hcs
  repb := fun j hj => by
    by_cases e : j = i
    · subst e
      rw [upd_same, hE.hp]
      exact ⟨(h.repb j hj).1, fun k hk => by
        rcases hE.foot k hk with h1 | h1
        · exact (h.repb j hj).2 k h1
        · exact Nat.le_trans h.hb h1⟩
    · rw [upd_other _ _ e]; exact h.repb j hj
  disj := fun a b ha hb hab => by
    by_cases ea : a = i
    · subst ea
      rw [upd_same, upd_other _ _ (fun e => hab e.symm), hE.hp]
      obtain ⟨d1, d2⟩ := h.disj a b ha hb hab
      refine ⟨d1, fun k hk hf => ?_⟩
      rcases hE.foot k hk with h1 | h1
      · exact d2 k h1 hf
      · have := foot_lt (h.reps b hb) hf; omega
    · rw [upd_other _ _ ea]
      by_cases eb : b = i
      · subst eb
        rw [upd_same, hE.hp]
        obtain ⟨d1, d2⟩ := h.disj a b ha hb hab
        refine ⟨d1, fun k hk hf => ?_⟩
        rcases hE.foot k hf with h1 | h1
        · exact d2 k hk h1
        · have := foot_lt (h.reps a ha) hk; omega
      · rw [upd_other _ _ eb]; exact h.disj a b ha hb hab

theorem PSt.at {base : Nat} {w : World} {pw N : Nat} {rs : Nat → RD} {n i : Nat} (h : PSt base w pw N rs n) (hi : i < N) (hN : N ≤ 100000) : ∃ g cap, AtI w pw g i N cap (rs i).p := by
  obtain ⟨pa, pc, a, b⟩ := h.plain
  rcases b.2 with ⟨h0, h1⟩ | ⟨g, cap, cur, q1, q2, q3, q4⟩
  · omega
  · cases q1
    refine ⟨g, pc, ⟨by simp [World.cell?, a], hi, hN, ?_⟩⟩
    have := b.cellAt i (by omega)
    rw [this, ptrs_get _ hi]

theorem low_eff {base : Nat} {w w' : World} {pw N : Nat} {rs : Nat → RD} {n i : Nat} {r' : RD} (h : PSt base w pw N rs n) (hi : i < N) (hE : Eff w w' (rs i) r') : Below base w w' :=
  ⟨hE.os, hE.tape, hE.output, hE.size, fun k hk => hE.block k (Nat.lt_of_lt_of_le hk h.hb) (fun e => by have := (h.repb i hi).1; omega) (fun hf => by have := (h.repb i hi).2 k hf; omega)⟩
end Go.Proofs.YtjhlijobdihplaaGreatDoor
namespace Go.Proofs.YtjhlijobdihplaaGreatDoor
open Go.RowKit Go.Maps Go.Shelf

theorem Tryz.infoRp : (Tryz.prog.info? 67).map (fun i => (i.zero, i.size, i.bytes)) = some (some (.pointer none), 1, 8) := by kernel_rfl
theorem Tryz.infoOn : (Tryz.prog.info? 39).map (fun i => (i.zero, i.size, i.bytes)) = some (some (.pointer none), 1, 8) := by kernel_rfl

def newRD (p : Nat) (id : Int) : RD := ⟨p, id, [], .map none, 0, fun _ => 0⟩

/-- behind 'x = append(x, ..)', x in block B -/
theorem append_keepTy {W w3 : World} {B off base size k : Nat} {t e : TypeId} {cs : Array Value} {v v' : Value} {xs : List Value} {tmp : Obj} (hv : W.heap[B]? = some (.cells cs t (0, 0))) (hrow : W.ownsRow base e size v k xs) (hgrow : (W.alloc tmp).grownBy w3 v.ownBlock) : KeepTy [t, e] W (w3.setCell ⟨B, off, none⟩ v') := by
  refine ⟨?_, fun j hj hc => ?_⟩
  · have := hgrow.size
    simp [World.setCell] at this ⊢
    omega
  · have h1 : j ≠ B := fun e1 => by subst e1; exact hc _ _ _ hv (by simp)
    have h2 : some j ≠ v.ownBlock := fun e1 => by
      rcases hrow.2 with ⟨rfl, _⟩ | ⟨g, cap, cur, rfl, _, q3, _⟩
      · simp [Value.ownBlock] at e1
      · have : j = g := by simpa [Value.ownBlock] using e1
        subst this
        exact hc _ _ _ q3 (by simp)
    rw [Below.heap_setCell _ _ _ j h1, hgrow.block j (by simp; omega) h2, Below.heap_alloc _ _ _ hj]

theorem rep_new (w : World) (id : Int) (n : Nat) (hid : IdOk id) : Rep (w.alloc (.cells #[.int .i64 id, .map none] 108)) (newRD w.heap.size id) n where
  kind := ⟨_, World.alloc_heap_new w _⟩
  cid := by simp [newRD]
  cv := by simp [newRD]
  book := .inl ⟨rfl, rfl⟩
  sorted := List.Pairwise.nil
  isMap := ⟨none, rfl⟩
  len := Nat.zero_le _
  clock := by show (0 : Int) ≤ _; omega
  names := fun y hy => by simp [newRD] at hy
  idr := hid

theorem PSt.below {base : Nat} {w w' : World} {pw N : Nat} {rs : Nat → RD} {n n' : Nat} (h : PSt base w pw N rs n) (hn : n ≤ n') (hb : Below w.heap.size w w') : PSt base w' pw N rs n' :=
  h.keep (S := []) hn (KeepTy.of_below hb) (by simp) (by simp) (by simp)
theorem LSt.below {base : Nat} {w w' : World} {lw pw N : Nat} {os : Nat → Nat} {ids : Nat → Int} {ls : Nat → List Reg} (h : LSt base w lw pw N os ids ls) (hb : Below w.heap.size w w') : LSt base w' lw pw N os ids ls :=
  h.keep (S := []) (KeepCells.of_below hb) (by simp) (by simp) (by simp) (by simp)

set_option maxRecDepth 100000 in
set_option maxHeartbeats 1000000 in
theorem newP_any (base pw N n : Nat) (rs : Nat → RD) (id : Int) (w : World) (h : PSt base w pw N rs n) (hN : N ≤ 5000) (hid : IdOk id) :
    Calls Tryz.prog 10 #[.pointer (some ⟨pw, 0, none⟩), .int .i64 id] w
      fun e w' => e = .returned (.bool true) ∧ ∃ p, PSt base w' pw (N + 1) (upd rs N (newRD p id)) n ∧ KeepCells [30, 67] w w' ∧ Below base w w' := by
  obtain ⟨i0, hti, hz0, hz1, hz2⟩ := info_parts Tryz.infoRp
  obtain ⟨pa, pc, hpw, hrow⟩ := h.plain
  have hpl : pw < w.heap.size := (Array.getElem?_eq_some_iff.1 hpw).1
  have hbs := h.hb
  have c0 : w.cell? ⟨pw, 0, none⟩ = some (.slice pa N pc) := by simp [World.cell?, hpw]
  have d0 : (w.alloc (.cells #[.int .i64 id, .map none] 108)).cell? ⟨pw, 0, none⟩ = some (.slice pa N pc) := by rw [World.cell?_alloc_lt _ _ ⟨pw, 0, none⟩ hpl]; exact c0
  have hbx : Boxed (w.alloc (.cells #[.int .i64 id, .map none] 108)) pw 30 (.slice pa N pc) := (show Boxed w pw 30 (.slice pa N pc) from hpw).alloc _
  have hrow1 := hrow.alloc (.cells #[.int .i64 id, .map none] 108)
  have hbW : Below w.heap.size w (w.alloc (.cells #[.int .i64 id, .map none] 108)) := (Below.refl _ _).alloc (Nat.le_refl _) _
  have hP1 := h.below (Nat.le_refl _) hbW
  have hR1 := rep_new w id n hid
  have hbs1 : base ≤ (w.alloc (.cells #[.int .i64 id, .map none] 108)).heap.size := by simp; omega
  obtain ⟨X, hX⟩ : ∃ X, w.alloc (.cells #[.int .i64 id, .map none] 108) = X := ⟨_, rfl⟩
  have hXs : X.heap.size = w.heap.size + 1 := by rw [← hX]; simp
  have hnew := newC_any id w
  rw [hX] at d0 hbx hrow1 hbW hP1 hR1 hbs1 hnew
  have HP : Hid (PSt base X pw N rs n) := hP1
  have HR : Hid (Rep X (newRD w.heap.size id) n) := hR1
  have HB : Hid (Below w.heap.size w X) := hbW
  have HO : Hid (∀ i, i < N → (rs i).p < w.heap.size ∧ ∀ k, (rs i).foot k → k < w.heap.size) := fun i hi => ⟨(h.reps i hi).lt, fun k hk => foot_lt (h.reps i hi) hk⟩
  have HXS : Hid (X.heap.size = w.heap.size + 1) := hXs
  have hpb := h.pwb
  clear hX hXs hP1 hR1 hbW hrow h hpw
  go_enter Tryz.func10, Tryz.ntmps10
  go_wp2_with (first | (go_at_call 28; refine hnew.mono ?_; clear hnew; rintro e w1 ⟨rfl, rfl⟩) | (at_builtin; refine wpList_append_own _ rfl _ _ 28 rfl base 67 i0 _ 1 8 Tryz.underlying28 hti hz0 hz1 hz2 rfl (by decide) (.slice pa N pc) N (ptrs (fun i => (rs i).p) N) rfl (hrow1.alloc _) ⟨w1.heap.size, 0, none⟩ 1 1 [.pointer (some ⟨w.heap.size, 0, none⟩)] rfl rfl (news_new _ [.pointer (some ⟨w.heap.size, 0, none⟩)] _) (by simp [Value.oneCell']) (by unfold maxLen; omega) (by omega) (by simp; omega) ?_; intro v' w3 hown' hgrow _; obtain ⟨g', cap', rfl⟩ := ownsRow_succ hown'; obtain ⟨hv1, hv2, hr2, hk2, hb2⟩ := hbx.appended (by decide) hrow1 hbs1 hpb hown' hgrow; have cc := hv1.cell; have ff := hv1.frozen))
  go_ret
  have hkt := append_keepTy (off := 0) (v' := .slice (some ⟨g', 0, none⟩) (N + 1) cap') hbx hrow1 hgrow
  have hXS := HXS.out
  refine ⟨rfl, w.heap.size, ⟨hpb, Nat.le_trans hbs1 hk2.size, ⟨_, _, hv2, ?_⟩, ?_, ?_, ?_⟩, ?_, ?_⟩
  · rw [ptrs_succ, upd_same]
    rw [ptrs_congr (g := fun i => (rs i).p) (fun i hi => by rw [upd_other _ _ (by omega)])]
    exact hr2
  · intro i hi
    by_cases e : i = N
    · subst e
      rw [upd_same]
      exact HR.out.keep (Nat.le_refl _) (hkt.same _ (by show w.heap.size < _; omega) (fun cs t f hc => by
        obtain ⟨cs', hcs'⟩ := HR.out.kind
        rw [show (newRD w.heap.size id).p = w.heap.size from rfl] at hcs'
        rw [show (newRD w.heap.size id).p = w.heap.size from rfl, hcs'] at hc
        cases hc; decide)) (fun k hk => by cases hk.1)
    · rw [upd_other _ _ e]
      have hr := HP.out.reps i (by omega)
      obtain ⟨cs, hcs⟩ := hr.kind
      exact hr.keep (Nat.le_refl _) (hkt.cells.same _ _ _ _ hcs (by decide)) (fun k hf => hkt.same k (foot_lt hr hf) (fun cs t f e => absurd e (foot_no_cells hr hf cs t f)))
  · intro i hi
    by_cases e : i = N
    · subst e
      rw [upd_same]
      exact ⟨by show base ≤ w.heap.size; exact hbs, fun k hk => by cases hk.1⟩
    · rw [upd_other _ _ e]; exact HP.out.repb i (by omega)
  · intro i j hi hj hij
    by_cases e : i = N
    · subst e
      rw [upd_same, upd_other _ _ (fun e => hij e.symm)]
      exact ⟨fun e => by have := (HO.out j (by omega)).1; rw [← e] at this; exact Nat.lt_irrefl _ this, fun k hk => by cases hk.1⟩
    · rw [upd_other _ _ e]
      by_cases e2 : j = N
      · subst e2
        rw [upd_same]
        exact ⟨fun e => by have := (HO.out i (by omega)).1; rw [e] at this; exact Nat.lt_irrefl _ this, fun k _ hk => by cases hk.1⟩
      · rw [upd_other _ _ e2]; exact HP.out.disj i j (by omega) (by omega) hij
  · have := (KeepCells.of_below (S := []) HB.out).trans hkt.cells
    exact this
  · exact (HB.out.mono hbs).trans hb2
end Go.Proofs.YtjhlijobdihplaaGreatDoor
