import Derived.Test.YtjhlijobdihplaaGreatDoorD4
import Derived.Test.YtjhlijobdihplaaGreatDoorM20
namespace Go.Proofs.YtjhlijobdihplaaGreatDoor
open Go.RowKit Go.Maps Go.Shelf Go.Lib Go.Extern

theorem beginL_sorted {l : List Reg} (hs : SortedB l) (s : ByteArray) : SortedB (beginL l s) := List.Pairwise.filter _ hs

theorem ofRegs_any (W w : World) (hb : Below w.heap.size w W) (r : RD) (n : Nat) (s : ByteArray) (hT : TabT w) (hr : Rep w r n) (hn : n ≤ 5000) (hs : s.size ≤ 5000) :
    Calls Tryz.prog 72 #[.func (.func 95) #[] #[.pointer (some ⟨W.heap.size + 1 + 1, 0, none⟩)]] (regsW W (some ⟨r.p, 1, none⟩) s) fun e w' => e = .returned (digH (hashN (linesL r.l s).data.toList)) ∧ Below W.heap.size W w' := by
  have hbR := regsW_below W (some ⟨r.p, 1, none⟩) s
  have hbw := hb.trans (hbR.mono hb.size)
  obtain ⟨b1, b2, b3, b4⟩ := regsW_cells W (some ⟨r.p, 1, none⟩) s
  have hr' := hr.below (Nat.le_refl _) hbw
  have hsrc := regs_src hr' b1 b2 (by unfold maxLen; omega)
  have hlen := hr.len
  have hfl : (beginL r.l s).length ≤ r.l.length := List.length_filter_le _ _
  have h := of_any (W.heap.size + 1 + 1) _ n _ (beginL r.l s) _ (by simp [World.cell?, b3]) hsrc (beginL_sorted hr.sorted s) (by omega) (by omega) (tabT_below hT hbw) (fun y hy => hr.names y (List.mem_filter.1 hy).1)
  rw [← hash_linesL] at h
  refine h.mono ?_
  rintro e w' ⟨rfl, hb2⟩
  exact ⟨rfl, hbR.trans (hb2.mono hbR.size)⟩

set_option maxRecDepth 100000 in
set_option maxHeartbeats 1000000 in
theorem digestC_any : DigR := by
  intro w r n s hT hr hn hs
  rw [digV_eq]
  have hof := fun W (hb : Below w.heap.size w W) => ofRegs_any W w hb r n s hT hr hn hs
  have HD : Hid (digH (hashN (linesL r.l s).data.toList) = .agg #[.int .u8 (hashB (hashN (linesL r.l s).data.toList) 0), .int .u8 (hashB (hashN (linesL r.l s).data.toList) 1), .int .u8 (hashB (hashN (linesL r.l s).data.toList) 2), .int .u8 (hashB (hashN (linesL r.l s).data.toList) 3), .int .u8 (hashB (hashN (linesL r.l s).data.toList) 4), .int .u8 (hashB (hashN (linesL r.l s).data.toList) 5), .int .u8 (hashB (hashN (linesL r.l s).data.toList) 6), .int .u8 (hashB (hashN (linesL r.l s).data.toList) 7)]) := rfl
  generalize hashN (linesL r.l s).data.toList = hp at *
  simp only [HD.out] at hof
  have HO : Hid (∀ W, Below w.heap.size w W → _) := hof
  clear hof
  have h1 := fun W => made_any r.p W
  have h2 := fun W => bookRegs_any (some ⟨r.p, 1, none⟩) s W
  go_enter Tryz.func50, Tryz.ntmps50
  go_wp2_with (first | (go_at_call 58; refine (h1 _).mono ?_; rintro e w1 ⟨rfl, rfl⟩) | (go_at_call 73; refine (h2 _).mono ?_; rintro e w1 ⟨rfl, rfl⟩))
  have hbA : Below w.heap.size w (w.alloc (.cells #[.int .u8 0, .int .u8 0, .int .u8 0, .int .u8 0, .int .u8 0, .int .u8 0, .int .u8 0, .int .u8 0] 101)) := (Below.refl _ w).alloc (Nat.le_refl _) _
  have ho := HO.out (w.alloc (.cells #[.int .u8 0, .int .u8 0, .int .u8 0, .int .u8 0, .int .u8 0, .int .u8 0, .int .u8 0, .int .u8 0] 101)) hbA
  simp only [World.size_alloc] at ho
  refine ho.mono ?_
  clear ho HO
  rintro e w5 ⟨rfl, hb5⟩
  have j1 : w5.heap[w.heap.size]? = some (.cells #[.int .u8 0, .int .u8 0, .int .u8 0, .int .u8 0, .int .u8 0, .int .u8 0, .int .u8 0, .int .u8 0] 101 (0, 0)) := (hb5.block w.heap.size (by omega)).trans (World.alloc_heap_new w _)
  have k0 : w5.cell? ⟨w.heap.size, 0, none⟩ = some (.int .u8 0) := by simp [World.cell?, j1]
  have k1 : w5.cell? ⟨w.heap.size, 1, none⟩ = some (.int .u8 0) := by simp [World.cell?, j1]
  have k2 : w5.cell? ⟨w.heap.size, 2, none⟩ = some (.int .u8 0) := by simp [World.cell?, j1]
  have k3 : w5.cell? ⟨w.heap.size, 3, none⟩ = some (.int .u8 0) := by simp [World.cell?, j1]
  have k4 : w5.cell? ⟨w.heap.size, 4, none⟩ = some (.int .u8 0) := by simp [World.cell?, j1]
  have k5 : w5.cell? ⟨w.heap.size, 5, none⟩ = some (.int .u8 0) := by simp [World.cell?, j1]
  have k6 : w5.cell? ⟨w.heap.size, 6, none⟩ = some (.int .u8 0) := by simp [World.cell?, j1]
  have k7 : w5.cell? ⟨w.heap.size, 7, none⟩ = some (.int .u8 0) := by simp [World.cell?, j1]
  have kf : ∀ j, w5.frozen? ⟨w.heap.size, j, none⟩ = false := fun j => by simp [World.frozen?, j1]
  go_wp2
  obtain ⟨Z, hZ⟩ : ∃ Z, ((((((((w5.setCell ⟨w.heap.size, 0, none⟩ (.int .u8 (hashB hp 0))).setCell ⟨w.heap.size, 1, none⟩ (.int .u8 (hashB hp 1))).setCell ⟨w.heap.size, 2, none⟩ (.int .u8 (hashB hp 2))).setCell ⟨w.heap.size, 3, none⟩ (.int .u8 (hashB hp 3))).setCell ⟨w.heap.size, 4, none⟩ (.int .u8 (hashB hp 4))).setCell ⟨w.heap.size, 5, none⟩ (.int .u8 (hashB hp 5))).setCell ⟨w.heap.size, 6, none⟩ (.int .u8 (hashB hp 6))).setCell ⟨w.heap.size, 7, none⟩ (.int .u8 (hashB hp 7))) = Z := ⟨_, rfl⟩
  have hZ1 : Z.heap[w.heap.size]? = some (.cells #[.int .u8 (hashB hp 0), .int .u8 (hashB hp 1), .int .u8 (hashB hp 2), .int .u8 (hashB hp 3), .int .u8 (hashB hp 4), .int .u8 (hashB hp 5), .int .u8 (hashB hp 6), .int .u8 (hashB hp 7)] 101 (0, 0)) := by
    rw [← hZ]
    exact set_heap (set_heap (set_heap (set_heap (set_heap (set_heap (set_heap (set_heap j1)))))))
  have hZb : Below w.heap.size w5 Z := by
    rw [← hZ]
    exact ((((((((Below.refl w.heap.size w5).setCell (p := ⟨w.heap.size, 0, none⟩) (Nat.le_refl _) _).setCell (p := ⟨w.heap.size, 1, none⟩) (Nat.le_refl _) _).setCell (p := ⟨w.heap.size, 2, none⟩) (Nat.le_refl _) _).setCell (p := ⟨w.heap.size, 3, none⟩) (Nat.le_refl _) _).setCell (p := ⟨w.heap.size, 4, none⟩) (Nat.le_refl _) _).setCell (p := ⟨w.heap.size, 5, none⟩) (Nat.le_refl _) _).setCell (p := ⟨w.heap.size, 6, none⟩) (Nat.le_refl _) _).setCell (p := ⟨w.heap.size, 7, none⟩) (Nat.le_refl _) _
  rw [hZ]
  clear hZ
  have y0 : Z.cell? ⟨w.heap.size, 0, none⟩ = some (.int .u8 (hashB hp 0)) := by simp [World.cell?, hZ1]
  have y1 : Z.cell? ⟨w.heap.size, 1, none⟩ = some (.int .u8 (hashB hp 1)) := by simp [World.cell?, hZ1]
  have y2 : Z.cell? ⟨w.heap.size, 2, none⟩ = some (.int .u8 (hashB hp 2)) := by simp [World.cell?, hZ1]
  have y3 : Z.cell? ⟨w.heap.size, 3, none⟩ = some (.int .u8 (hashB hp 3)) := by simp [World.cell?, hZ1]
  have y4 : Z.cell? ⟨w.heap.size, 4, none⟩ = some (.int .u8 (hashB hp 4)) := by simp [World.cell?, hZ1]
  have y5 : Z.cell? ⟨w.heap.size, 5, none⟩ = some (.int .u8 (hashB hp 5)) := by simp [World.cell?, hZ1]
  have y6 : Z.cell? ⟨w.heap.size, 6, none⟩ = some (.int .u8 (hashB hp 6)) := by simp [World.cell?, hZ1]
  have y7 : Z.cell? ⟨w.heap.size, 7, none⟩ = some (.int .u8 (hashB hp 7)) := by simp [World.cell?, hZ1]
  refine bodyPost_ret (v := .agg #[.int .u8 (hashB hp 0), .int .u8 (hashB hp 1), .int .u8 (hashB hp 2), .int .u8 (hashB hp 3), .int .u8 (hashB hp 4), .int .u8 (hashB hp 5), .int .u8 (hashB hp 6), .int .u8 (hashB hp 7)]) (by simp [results, Tryz.results50, go_sem, y0, y1, y2, y3, y4, y5, y6, y7]) rfl ?_
  exact ⟨by rw [HD.out], (hbA.trans (hb5.mono (by omega))).trans hZb⟩

/-- contacts.Registers, contacts.Digest: Books' two contracts are paid -/
theorem regR_any : RegR := fun w r n hr hn => hands_any w r n hr hn
end Go.Proofs.YtjhlijobdihplaaGreatDoor
namespace Go.Proofs.YtjhlijobdihplaaGreatDoor
open Go.RowKit Go.Maps Go.Shelf

theorem four_cells {W : World} {b : Nat} {x y z u : Value} {t : TypeId} {f : Nat × Nat} (h : W.heap[b]? = some (.cells #[x, y, z, u] t f)) : W.cell? ⟨b, 0, none⟩ = some x ∧ W.cell? ⟨b, 1, none⟩ = some y ∧ W.cell? ⟨b, 2, none⟩ = some z ∧ W.cell? ⟨b, 3, none⟩ = some u := by
  refine ⟨?_, ?_, ?_, ?_⟩ <;> simp [World.cell?, h]

set_option maxRecDepth 100000 in
set_option maxHeartbeats 4000000 in
theorem books_any (l : List OpS) (ad : Option Addr) (cap : Nat) (w : World) (hl : l.length ≤ maxLen) (hS : l ≠ [] → ∃ g off, ad = some ⟨g, off, none⟩ ∧ Sc w g off l) (hE : ErrT w) (hT : TabT w)
    (hb : ∀ i, i < l.length → (opAt l i).s.size ≤ 140737488355328 ∧ (opAt l i).t.size ≤ 140737488355328 ∧ (opAt l i).u.size ≤ 140737488355328)
    (ha : ∀ i, i < l.length → -9223372036854775808 ≤ (opAt l i).a ∧ (opAt l i).a < 9223372036854775808) :
    Calls Tryz.prog 4 #[.slice ad l.length cap] w fun e w' => e = .returned (.bool true) ∧ Below w.heap.size w w' := by
  have HP : Hid (∀ W kb, Below w.heap.size w W → W.cell? ⟨kb, 0, none⟩ = some (.int .i64 4) → W.cell? ⟨kb, 1, none⟩ = some (.int .i64 5) → W.cell? ⟨kb, 2, none⟩ = some (.int .i64 6) → W.cell? ⟨kb, 3, none⟩ = some (.int .i64 7) →
      Calls Tryz.prog 6 #[.slice ad l.length cap, .slice (some ⟨kb, 0, none⟩) 4 4, .bool true] W fun e w' => e = .returned (.bool true) ∧ Below W.heap.size W w') := fun W kb hbW h0 h1 h2 h3 =>
    plays_books (regC_of regR_any) (digC_of digestC_any) l ad cap kb W hl (fun hn => by obtain ⟨g, off, e, h⟩ := hS hn; exact ⟨g, off, e, h.below hbW⟩) (errT_below hE hbW) (tabT_below hT hbW) hb ha h0 h1 h2 h3
  clear hS hE hT hb ha hl
  go_enter Tryz.func4, Tryz.ntmps4
  go_wp2_with fail
  have hn := World.alloc_heap_new w (.cells #[.int .i64 4, .int .i64 5, .int .i64 6, .int .i64 7] 3)
  refine (HP.out (w.alloc (.cells #[.int .i64 4, .int .i64 5, .int .i64 6, .int .i64 7] 3)) w.heap.size ((Below.refl _ _).alloc (Nat.le_refl _) _) (four_cells hn).1 (four_cells hn).2.1 (four_cells hn).2.2.1 (four_cells hn).2.2.2).mono ?_
  clear HP hn
  rintro e w5 ⟨rfl, hb5⟩
  go_wp2
  go_ret
  exact ⟨rfl, ((Below.refl _ _).alloc (Nat.le_refl _) _).trans (hb5.mono (by simp))⟩
end Go.Proofs.YtjhlijobdihplaaGreatDoor
