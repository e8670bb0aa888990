import Derived.Test.YtjhlijobdihplaaGreatDoorM23
import Derived.Test.YtjhlijobdihplaaGreatDoorM22
namespace Go.Proofs.YtjhlijobdihplaaGreatDoor
open Go.RowKit Go.Maps Go.Shelf Go.Lib Go.Extern
attribute [local go_sem] Oper.semAt_some

theorem hashRegs_snoc (h : Int) (F : List Reg) (y : Reg) : hashRegs h (F ++ [y]) = addN (hashRegs h F) (line1 y).data.toList := by
  unfold hashRegs
  rw [List.foldl_append]
  rfl
theorem line1_size (y : Reg) (h : RegOk y) : (line1 y).size ≤ 1000 := by
  have z1 := decL_size y.c
  have z2 := decL_size y.r
  have z3 := decL_size (y.v.size : Int)
  have e1 : (ByteArray.mk #[46]).size = 1 := rfl
  have e3 : (ByteArray.mk #[32]).size = 1 := rfl
  have e4 : (ByteArray.mk #[10]).size = 1 := rfl
  have h1 := h.n
  have h2 := h.f
  have h3 := h.v
  unfold line1
  simp only [app_size, e1, e3, e4]
  omega

theorem heap_kept {W W' : World} {k : Nat} {cs : Array Value} {t : TypeId} {f : Nat × Nat} {row : Option Nat} (h : W.heap[k]? = some (.cells cs t f)) (hg : W.grownBy W' row) (hr : ∀ r, row = some r → ∃ o : Obj, W.heap[r]? = some o ∧ o.isCells = false) : W'.heap[k]? = some (.cells cs t f) := by
  rw [hg.block k (Array.getElem?_eq_some_iff.1 h).1 (fun e => by
    obtain ⟨o, ho, hc⟩ := hr k e.symm
    rw [h] at ho; cases ho; cases hc)]
  exact h

theorem set_heap {W : World} {b o : Nat} {v : Value} {cs : Array Value} {t : TypeId} (h : W.heap[b]? = some (.cells cs t (0, 0))) : (W.setCell ⟨b, o, none⟩ v).heap[b]? = some (.cells (cs.setIfInBounds o v) t (0, 0)) := by
  simp [World.setCell, h, Array.getElem?_modify]

set_option maxRecDepth 100000 in
set_option maxHeartbeats 2000000 in
/-- digest.Of, over what sorted's closure tells -/
theorem of_any (rb f n : Nat) (lb : Array Value) (F : List Reg) (w : World) (c1 : w.cell? ⟨rb, 0, none⟩ = some (.func (.func f) #[] lb)) (hS : Src w f lb F n) (hFs : SortedB F) (hn : n ≤ 100000) (hFl : F.length ≤ 100000) (hT : TabT w) (hN : ∀ y ∈ F, RegOk y) :
    Calls Tryz.prog 72 #[.func (.func 95) #[] #[.pointer (some ⟨rb, 0, none⟩)]] w fun e w' => e = .returned (digH (hashRegs 14695981039346656037 F)) ∧ Below w.heap.size w w' := by
  have l1 := lt_of_cell c1
  refine (callsIn_wide (n := 40)).1 ?_
  refine callsIn_of_wp_marks Tryz.func72 rfl trivial ?_ rfl
  simp only [Tryz.ntmps72, List.size_toArray, List.length_cons, List.length_nil, Nat.reduceAdd, Nat.reduceSub, Array.replicate_succ, Array.replicate_zero, List.push_toArray, List.append_toArray, List.nil_append, List.cons_append]
  gi_wp2
  obtain ⟨W0, hW0⟩ : ∃ W0, (w.alloc (.cells #[.int .u8 0, .int .u8 0, .int .u8 0, .int .u8 0, .int .u8 0, .int .u8 0, .int .u8 0, .int .u8 0] 101)).alloc (.cells #[.int .u64 14695981039346656037] 154) = W0 := ⟨_, rfl⟩
  have hsz : W0.heap.size = w.heap.size + 2 := by rw [← hW0]; simp
  have hbW : Below w.heap.size w W0 := by rw [← hW0]; exact ((Below.refl _ w).alloc (Nat.le_refl _) _).alloc (by simp) _
  have hr0 : W0.heap[w.heap.size]? = some (.cells #[.int .u8 0, .int .u8 0, .int .u8 0, .int .u8 0, .int .u8 0, .int .u8 0, .int .u8 0, .int .u8 0] 101 (0, 0)) := by
    rw [← hW0, Below.heap_alloc _ _ _ (by simp)]
    exact World.alloc_heap_new w _
  have hh0 : W0.heap[w.heap.size + 1]? = some (.cells #[.int .u64 14695981039346656037] 154 (0, 0)) := by
    have := World.alloc_heap_new (w.alloc (.cells #[.int .u8 0, .int .u8 0, .int .u8 0, .int .u8 0, .int .u8 0, .int .u8 0, .int .u8 0, .int .u8 0] 101)) (.cells #[.int .u64 14695981039346656037] 154)
    rw [World.size_alloc, hW0] at this; exact this
  rw [hW0]
  clear hW0
  refine range_tells2 (α := Reg) (by omega) (gf := 95) (lb := #[.pointer (some ⟨rb, 0, none⟩)]) rfl (enters_of Tryz.func95 (by kernel_rfl) rfl)
    (encs := fun x => #[regV x]) (fun _ => rfl) noFp (fun _ _ _ _ _ _ _ h => h)
    (fun pre W => W.heap[w.heap.size]? = some (.cells #[.int .u8 0, .int .u8 0, .int .u8 0, .int .u8 0, .int .u8 0, .int .u8 0, .int .u8 0, .int .u8 0] 101 (0, 0)) ∧ W.heap[w.heap.size + 1]? = some (.cells #[.int .u64 (hashRegs 14695981039346656037 pre)] 154 (0, 0)) ∧ Below w.heap.size w W)
    (fun s A B row hs hg hr => ⟨heap_kept hs.1 hg (fun r e => (hr r e).2), heap_kept hs.2.1 hg (fun r e => (hr r e).2), hs.2.2.grown hg hs.2.2.size (fun k e => by have := (hr k e).1; omega)⟩)
    ⟨hr0, hh0, hbW⟩
    (fun x a' X => ∃ Bx, W0.heap.size ≤ Bx ∧ five X Bx x ∧ a' = { tmps := #[.func (.func 95) #[] #[.pointer (some ⟨rb, 0, none⟩)], undef, .pointer (some ⟨w.heap.size, 0, none⟩), .pointer (some ⟨w.heap.size + 1, 0, none⟩), .pointer (some ⟨Bx, 0, none⟩), .func (.func 95) #[] #[.pointer (some ⟨rb, 0, none⟩)], regV x, undef, undef, undef, undef, undef, undef], defers := [] })
    RegOk (fun x a' X Y row h hg hr => by obtain ⟨Bx, h1, h2, h3⟩ := h; exact ⟨Bx, h1, five_own h2 hg hr, h3⟩)
    F ?assign ?body ?call ?done
  case assign =>
    rintro lq m pre x W K ⟨i1, i2, i3⟩ hs2 hK
    unfold regV
    gi_wp2
    have hg := World.grownBy_alloc W (.cells #[.string x.n, .string x.f, .int .i64 x.c, .int .i64 x.r, .string x.v] 99) none
    have no : ∀ r, (none : Option Nat) = some r → ∃ o : Obj, W.heap[r]? = some o ∧ o.isCells = false := fun r e => by cases e
    refine hK _ _ (KeepsOthers.alloc _ _) (keepL_alloc (noFp_ok W0) _ _ (by omega)) ⟨heap_kept i1 hg no, heap_kept i2 hg no, i3.alloc i3.size _⟩ ?_
    exact ⟨W.heap.size, by omega, ⟨by simp, by simp, by simp, by simp, by simp⟩, rfl⟩
  case body =>
    rintro lq m pre x a' W ⟨i1, i2, i3⟩ ⟨Bx, hBx, ⟨z0, z1, z2, z3, z4⟩, rfl⟩ hs2 hlen hok
    have hc0 : W.cell? ⟨w.heap.size + 1, 0, none⟩ = some (.int .u64 (hashRegs 14695981039346656037 pre)) := by simp [World.cell?, i2]
    have HS : Hid (hashRegs 14695981039346656037 (pre ++ [x]) = addN (hashRegs 14695981039346656037 pre) (line1 x).data.toList) := hashRegs_snoc _ _ _
    have hls := line1_size x hok
    have hTW : TabT W.drew := tabT_below hT i3.drew
    have hline := line_any x W.drew hTW (Nat.le_trans hok.n (by decide)) (Nat.le_trans hok.f (by decide)) (Nat.le_trans hok.v (by decide)) hok.c hok.r
    have hadd := fun W' => add_any (hashRegs 14695981039346656037 pre) (line1 x) W' (by omega)
    have hl2 : w.heap.size + 1 < W.heap.size := by omega
    have HEND : Hid (∀ w5, Below W.heap.size W w5 → w5.cell? ⟨w.heap.size + 1, 0, none⟩ = some (.int .u64 (hashRegs 14695981039346656037 pre)) ∧ w5.frozen? ⟨w.heap.size + 1, 0, none⟩ = false ∧ ∀ hv, hv = hashRegs 14695981039346656037 (pre ++ [x]) →
        KeepsOthers W (w5.setCell ⟨w.heap.size + 1, 0, none⟩ (.int .u64 hv)) ∧ KeepL noFp (w.heap.size + 2 + 2) W (w5.setCell ⟨w.heap.size + 1, 0, none⟩ (.int .u64 hv)) ∧ (w5.setCell ⟨w.heap.size + 1, 0, none⟩ (.int .u64 hv)).heap[w.heap.size]? = some (.cells #[.int .u8 0, .int .u8 0, .int .u8 0, .int .u8 0, .int .u8 0, .int .u8 0, .int .u8 0, .int .u8 0] 101 (0, 0)) ∧
        (w5.setCell ⟨w.heap.size + 1, 0, none⟩ (.int .u64 hv)).heap[w.heap.size + 1]? = some (.cells #[.int .u64 (hashRegs 14695981039346656037 (pre ++ [x]))] 154 (0, 0)) ∧ Below w.heap.size w (w5.setCell ⟨w.heap.size + 1, 0, none⟩ (.int .u64 hv))) := by
      intro w5 hb5
      have j2 := (hb5.block (w.heap.size + 1) hl2).trans i2
      have j1 := (hb5.block w.heap.size (by omega)).trans i1
      refine ⟨by simp [World.cell?, j2], by simp [World.frozen?, j2], ?_⟩
      rintro hv rfl
      have hoth : ∀ k, k ≠ w.heap.size + 1 → (w5.setCell ⟨w.heap.size + 1, 0, none⟩ (.int .u64 (hashRegs 14695981039346656037 (pre ++ [x])))).heap[k]? = w5.heap[k]? := fun k hk => Below.heap_setCell _ _ _ k hk
      have hszs : (w5.setCell ⟨w.heap.size + 1, 0, none⟩ (.int .u64 (hashRegs 14695981039346656037 (pre ++ [x])))).heap.size = w5.heap.size := by simp
      have hs5 := hb5.size
      refine ⟨⟨by omega, fun k o ho hc => ?_⟩, ⟨by omega, fun k o hk _ ho hc => ?_, fun k h => h.elim⟩, ?_, ?_, ?_⟩
      · have hkl := (Array.getElem?_eq_some_iff.1 ho).1
        rw [hoth k (fun e => by subst e; rw [i2] at ho; cases ho; cases hc), hb5.block k hkl]; exact ho
      · have hkl := (Array.getElem?_eq_some_iff.1 ho).1
        rw [hoth k (by omega), hb5.block k hkl]; exact ho
      · rw [hoth _ (by omega)]; exact j1
      · simp [World.setCell, j2, Array.getElem?_modify]
      · exact (i3.trans (hb5.mono i3.size)).setCell (p := ⟨w.heap.size + 1, 0, none⟩) (by simp) _
    obtain ⟨_, hfr, _⟩ := HEND.out W (Below.refl _ _)
    unfold regV
    clear i1 i2 hS hN hFs c1 hr0 hh0 hbW hTW hT
    have HI3 : Hid (Below w.heap.size w W) := i3
    clear i3
    generalize hashRegs 14695981039346656037 pre = hp at *
    gi_wp2
    gi_region_with (first | (refine ⟨trivial, fun h => (Bool.false_ne_true h).elim, ?_⟩; refine (CallsIn.inRound lq (callsIn_wide.2 hline)).mono ?_; rintro e w5 ⟨rfl, hb5⟩; have hb6 : Below W.heap.size W w5 := ⟨hb5.os, hb5.tape, hb5.output, hb5.size, hb5.block⟩; obtain ⟨y0, y1, y2⟩ := HEND.out w5 hb6) | (refine ⟨trivial, fun h => (Bool.false_ne_true h).elim, ?_⟩; refine (CallsIn.inRound lq (callsIn_wide.2 (hadd _))).mono ?_; rintro e _ ⟨rfl, rfl⟩))
    all_goals gi_wp2
    all_goals exact y2 _ HS.out.symm
  case call =>
    intro J W1 hb1 hs1 hJ hJ0 hY
    have c1' : W1.cell? ⟨rb, 0, none⟩ = some (.func (.func f) #[] lb) := ((hbW.trans (hb1.mono hbW.size)).cell (p := ⟨rb, 0, none⟩) l1).trans c1
    have h := sorted1_any (.yield (W0.heap.size + 1)) #[] (40 - 1) (by omega) rb f n lb F W1 c1' (hS.below (hbW.trans (hb1.mono hbW.size))) hFs hn hFl noFp (noFp_ok W1) W1.heap.size (Nat.le_refl _) J (fun _ _ => False) (fun s X Y h g => hJ s X Y none h g (fun r e => by cases e)) hJ0 RegOk hN
      (.inl ⟨_, rfl, rfl, fun pre x X hX hl hok => by
        obtain ⟨fn, tmps, assign, body, hy, hR⟩ := hY (40 - 1 - 1) pre x X hX hl hok
        exact ⟨fn, tmps, assign, body, hy, hR.mono (fun e W' h => .inl ⟨h.1, h.2.1, h.2.2.1⟩)⟩⟩)
    exact h.mono (fun e W' h => ⟨h.1, h.2.elim id (fun ⟨_, _, h⟩ => h.elim)⟩)
  case done =>
    rintro D W2 hD ⟨i1, i2, i3⟩ hK
    have hc0 : W2.cell? ⟨w.heap.size + 1, 0, none⟩ = some (.int .u64 (hashRegs 14695981039346656037 F)) := by simp [World.cell?, i2]
    have hdg := hdigest_any (hashRegs 14695981039346656037 F) W2
    obtain ⟨hp, hhp⟩ : ∃ hp, hashRegs 14695981039346656037 F = hp := ⟨_, rfl⟩
    rw [hhp] at hc0 hdg
    have HHP : Hid (hashRegs 14695981039346656037 F = hp) := hhp
    clear hhp i2
    have HD : Hid (digH hp = .agg #[.int .u8 (hashB hp 0), .int .u8 (hashB hp 1), .int .u8 (hashB hp 2), .int .u8 (hashB hp 3), .int .u8 (hashB hp 4), .int .u8 (hashB hp 5), .int .u8 (hashB hp 6), .int .u8 (hashB hp 7)]) := rfl
    rw [HD.out] at hdg
    gi_wp2
    refine ⟨trivial, ?_⟩
    refine (callsIn_wide.2 hdg).mono ?_
    clear hdg
    rintro e w5 ⟨rfl, hb5⟩
    have hl2 : w.heap.size < W2.heap.size := by have := i3.size; have := (Array.getElem?_eq_some_iff.1 i1).1; omega
    have j1 := (hb5.block w.heap.size hl2).trans i1
    have k0 : w5.cell? ⟨w.heap.size, 0, none⟩ = some (.int .u8 0) := by simp [World.cell?, j1]
    have k1 : w5.cell? ⟨w.heap.size, 1, none⟩ = some (.int .u8 0) := by simp [World.cell?, j1]
    have k2 : w5.cell? ⟨w.heap.size, 2, none⟩ = some (.int .u8 0) := by simp [World.cell?, j1]
    have k3 : w5.cell? ⟨w.heap.size, 3, none⟩ = some (.int .u8 0) := by simp [World.cell?, j1]
    have k4 : w5.cell? ⟨w.heap.size, 4, none⟩ = some (.int .u8 0) := by simp [World.cell?, j1]
    have k5 : w5.cell? ⟨w.heap.size, 5, none⟩ = some (.int .u8 0) := by simp [World.cell?, j1]
    have k6 : w5.cell? ⟨w.heap.size, 6, none⟩ = some (.int .u8 0) := by simp [World.cell?, j1]
    have k7 : w5.cell? ⟨w.heap.size, 7, none⟩ = some (.int .u8 0) := by simp [World.cell?, j1]
    have kf : ∀ j, w5.frozen? ⟨w.heap.size, j, none⟩ = false := fun j => by simp [World.frozen?, j1]
    have hK5 : w5.heap[D]? = some (.deferred (some [])) := (hb5.block D (Array.getElem?_eq_some_iff.1 hK).1).trans hK
    gi_wp2
    obtain ⟨Z, hZ⟩ : ∃ Z, ((((((((w5.setCell ⟨w.heap.size, 0, none⟩ (.int .u8 (hashB hp 0))).setCell ⟨w.heap.size, 1, none⟩ (.int .u8 (hashB hp 1))).setCell ⟨w.heap.size, 2, none⟩ (.int .u8 (hashB hp 2))).setCell ⟨w.heap.size, 3, none⟩ (.int .u8 (hashB hp 3))).setCell ⟨w.heap.size, 4, none⟩ (.int .u8 (hashB hp 4))).setCell ⟨w.heap.size, 5, none⟩ (.int .u8 (hashB hp 5))).setCell ⟨w.heap.size, 6, none⟩ (.int .u8 (hashB hp 6))).setCell ⟨w.heap.size, 7, none⟩ (.int .u8 (hashB hp 7))) = Z := ⟨_, rfl⟩
    have hZ1 : Z.heap[w.heap.size]? = some (.cells #[.int .u8 (hashB hp 0), .int .u8 (hashB hp 1), .int .u8 (hashB hp 2), .int .u8 (hashB hp 3), .int .u8 (hashB hp 4), .int .u8 (hashB hp 5), .int .u8 (hashB hp 6), .int .u8 (hashB hp 7)] 101 (0, 0)) := by
      rw [← hZ]
      exact set_heap (set_heap (set_heap (set_heap (set_heap (set_heap (set_heap (set_heap j1)))))))
    have hZb : Below w.heap.size w5 Z := by
      rw [← hZ]
      exact ((((((((Below.refl w.heap.size w5).setCell (p := ⟨w.heap.size, 0, none⟩) (Nat.le_refl _) _).setCell (p := ⟨w.heap.size, 1, none⟩) (Nat.le_refl _) _).setCell (p := ⟨w.heap.size, 2, none⟩) (Nat.le_refl _) _).setCell (p := ⟨w.heap.size, 3, none⟩) (Nat.le_refl _) _).setCell (p := ⟨w.heap.size, 4, none⟩) (Nat.le_refl _) _).setCell (p := ⟨w.heap.size, 5, none⟩) (Nat.le_refl _) _).setCell (p := ⟨w.heap.size, 6, none⟩) (Nat.le_refl _) _).setCell (p := ⟨w.heap.size, 7, none⟩) (Nat.le_refl _) _
    have hZD : Z.heap[D]? = some (.deferred (some [])) := by
      have hne : D ≠ w.heap.size := by omega
      rw [← hZ, Below.heap_setCell _ _ _ D hne, Below.heap_setCell _ _ _ D hne, Below.heap_setCell _ _ _ D hne, Below.heap_setCell _ _ _ D hne, Below.heap_setCell _ _ _ D hne, Below.heap_setCell _ _ _ D hne, Below.heap_setCell _ _ _ D hne, Below.heap_setCell _ _ _ D hne]
      exact hK5
    rw [hZ]
    clear hZ
    have hZ2 : (Z.putObj D (.deferred none)).heap[w.heap.size]? = some (.cells #[.int .u8 (hashB hp 0), .int .u8 (hashB hp 1), .int .u8 (hashB hp 2), .int .u8 (hashB hp 3), .int .u8 (hashB hp 4), .int .u8 (hashB hp 5), .int .u8 (hashB hp 6), .int .u8 (hashB hp 7)] 101 (0, 0)) := (World.putObj_heap_other (by omega)).trans hZ1
    have y0 : (Z.putObj D (.deferred none)).cell? ⟨w.heap.size, 0, none⟩ = some (.int .u8 (hashB hp 0)) := by simp [World.cell?, hZ2]
    have y1 : (Z.putObj D (.deferred none)).cell? ⟨w.heap.size, 1, none⟩ = some (.int .u8 (hashB hp 1)) := by simp [World.cell?, hZ2]
    have y2 : (Z.putObj D (.deferred none)).cell? ⟨w.heap.size, 2, none⟩ = some (.int .u8 (hashB hp 2)) := by simp [World.cell?, hZ2]
    have y3 : (Z.putObj D (.deferred none)).cell? ⟨w.heap.size, 3, none⟩ = some (.int .u8 (hashB hp 3)) := by simp [World.cell?, hZ2]
    have y4 : (Z.putObj D (.deferred none)).cell? ⟨w.heap.size, 4, none⟩ = some (.int .u8 (hashB hp 4)) := by simp [World.cell?, hZ2]
    have y5 : (Z.putObj D (.deferred none)).cell? ⟨w.heap.size, 5, none⟩ = some (.int .u8 (hashB hp 5)) := by simp [World.cell?, hZ2]
    have y6 : (Z.putObj D (.deferred none)).cell? ⟨w.heap.size, 6, none⟩ = some (.int .u8 (hashB hp 6)) := by simp [World.cell?, hZ2]
    have y7 : (Z.putObj D (.deferred none)).cell? ⟨w.heap.size, 7, none⟩ = some (.int .u8 (hashB hp 7)) := by simp [World.cell?, hZ2]
    refine ⟨by simp, .inl ⟨_, _, rfl, run_takeDeferred hZD, ?_⟩⟩
    refine ⟨digH hp, ?_, by rw [HHP.out], ?_⟩
    · rw [HD.out]
      simp [results, Tryz.results72, go_sem, y0, y1, y2, y3, y4, y5, y6, y7]
    · exact ((i3.trans (hb5.mono i3.size)).trans hZb).trans (belowK_b (w := w) (Nat.le_refl _) Z D _ _ (by omega) hZD rfl rfl)
end Go.Proofs.YtjhlijobdihplaaGreatDoor
