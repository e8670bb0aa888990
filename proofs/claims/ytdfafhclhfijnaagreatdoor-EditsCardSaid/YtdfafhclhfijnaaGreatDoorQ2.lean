import Derived.Test.YtdfafhclhfijnaaGreatDoorQ1
namespace Go.Proofs.YtdfafhclhfijnaaGreatDoor
open Go.RowKit Go.Maps Go.Shelf

theorem next_rep (r : RD) (n : Nat) (w : World) (hr : Rep w r n) (hn : n < 100000) :
    Calls Tryz.prog 78 #[.pointer (some ⟨r.p, 1, none⟩)] w fun e w' => e = .returned (.int .i64 (clockL r.l + 1)) ∧ Below w.heap.size w w' := by
  rcases hr.book with ⟨hv, hl⟩ | ⟨hv, hM⟩
  · rw [hl]
    exact next_nil r.p 1 w (by rw [hr.cv, hv])
  · exact next_any r.p 1 r.M n r.nb r.l w (by rw [hr.cv, hv]) hM hr.sorted (by have := hr.clock; omega)

theorem below_keep {w w' : World} {B b j : Nat} {u : Value} (hb : Below B w w') (hlt : b < B) (hc : w.cell? ⟨b, j, none⟩ = some u) : w'.cell? ⟨b, j, none⟩ = some u := (hb.cell (p := ⟨b, j, none⟩) hlt).trans hc
theorem below_frozen {w w' : World} {B b j : Nat} (hb : Below B w w') (hlt : b < B) (hc : w.frozen? ⟨b, j, none⟩ = false) : w'.frozen? ⟨b, j, none⟩ = false := (hb.frozen (p := ⟨b, j, none⟩) hlt).trans hc

set_option maxRecDepth 100000 in
set_option maxHeartbeats 1000000 in
theorem stamp_rep (r : RD) (n : Nat) (w : World) (hr : Rep w r n) (hn : n < 100000) :
    Calls Tryz.prog 58 #[.pointer (some ⟨r.p, 0, none⟩)] w fun e w' => e = .returned (.agg #[.int .i64 (clockL r.l + 1), .int .i64 r.id]) ∧ Below w.heap.size w w' := by
  have hcid := hr.cid
  have hlt := hr.lt
  have hW1 : Below w.heap.size w (w.alloc (.cells #[.int .i64 0, .int .i64 0] 97)).drew := ((Below.refl _ _).alloc (Nat.le_refl _) _).drew
  have hN := next_rep r n (w.alloc (.cells #[.int .i64 0, .int .i64 0] 97)).drew (hr.below (Nat.le_refl _) hW1) hn
  have cz : (w.alloc (.cells #[.int .i64 0, .int .i64 0] 97)).drew.cell? ⟨r.p, 0, none⟩ = some (.int .i64 r.id) := below_keep hW1 hlt hcid
  have s1 : (w.alloc (.cells #[.int .i64 0, .int .i64 0] 97)).drew.heap.size = w.heap.size + 1 := by simp
  have k0 : (w.alloc (.cells #[.int .i64 0, .int .i64 0] 97)).drew.cell? ⟨w.heap.size, 0, none⟩ = some (.int .i64 0) := by simp
  have k1 : (w.alloc (.cells #[.int .i64 0, .int .i64 0] 97)).drew.cell? ⟨w.heap.size, 1, none⟩ = some (.int .i64 0) := by simp
  have f0 : (w.alloc (.cells #[.int .i64 0, .int .i64 0] 97)).drew.frozen? ⟨w.heap.size, 0, none⟩ = false := by simp
  have f1 : (w.alloc (.cells #[.int .i64 0, .int .i64 0] 97)).drew.frozen? ⟨w.heap.size, 1, none⟩ = false := by simp
  obtain ⟨c, hcl⟩ : ∃ c, clockL r.l + 1 = c := ⟨_, rfl⟩
  rw [hcl] at hN ⊢
  rw [s1] at hN
  have HB : Hid (Below w.heap.size w (w.alloc (.cells #[.int .i64 0, .int .i64 0] 97)).drew) := hW1
  clear s1 hr hW1 hcl
  go_enter Tryz.func58, Tryz.ntmps58
  go_wp2
  go_region_with (go_at_call 78; refine hN.mono ?_; clear hN; rintro e w5 ⟨rfl, hb5⟩; have q0 := below_keep hb5 (Nat.lt_succ_of_lt hlt) cz; have q1 := below_keep hb5 (Nat.lt_succ_self _) k0; have q2 := below_keep hb5 (Nat.lt_succ_self _) k1; have q3 := below_frozen hb5 (Nat.lt_succ_self _) f0; have q4 := below_frozen hb5 (Nat.lt_succ_self _) f1)
  all_goals go_wp2
  all_goals refine bodyPost_ret (v := .agg #[.int .i64 c, .int .i64 r.id]) (by simp [results, Tryz.results58, go_sem, q1, q2]) rfl ?_
  all_goals exact ⟨rfl, ((HB.out.trans (hb5.mono (Nat.le_succ _))).setCell (p := ⟨w.heap.size, 0, none⟩) (Nat.le_refl _) _).setCell (p := ⟨w.heap.size, 1, none⟩) (Nat.le_refl _) _⟩
end Go.Proofs.YtdfafhclhfijnaaGreatDoor
