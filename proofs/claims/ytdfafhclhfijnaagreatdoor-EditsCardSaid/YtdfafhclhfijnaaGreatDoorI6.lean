import Derived.Sort.CutIn
import Derived.Stop.RegionWithIn
import Derived.Test.YtdfafhclhfijnaaGreatDoorI5
namespace Go.Proofs.YtdfafhclhfijnaaGreatDoor
open Go.RowKit Go.Maps Go.Shelf Go.Lib Go.Extern
attribute [local go_sem] Oper.semAt_some

set_option maxHeartbeats 400000 in
theorem seenM_any (a : Option Addr) (name : ByteArray) (w : World) :
    Calls Tryz.prog 66 #[.pointer a, .string name] w fun e w' => e = .returned (.func (.func 80) #[] #[.pointer (some ⟨w.heap.size, 0, none⟩), .pointer (some ⟨w.heap.size + 1, 0, none⟩)]) ∧ w' = (w.alloc (.cells #[.pointer a] 146)).alloc (.cells #[.string name] 9) := by
  go_enter Tryz.func66, Tryz.ntmps66
  go_wp2
  go_ret
  exact ⟨rfl, rfl⟩

theorem ownsRow_shape {w : World} {base : Nat} {e : TypeId} {size : Nat} {v : Value} {n : Nat} {xs : List Value} (h : w.ownsRow base e size v n xs) : ∃ a cap, v = .slice a n cap := by
  rcases h.2 with ⟨rfl, rfl⟩ | ⟨_, _, _, rfl, _⟩
  · exact ⟨_, _, rfl⟩
  · exact ⟨_, _, rfl⟩
theorem ownsRow_zero {w : World} {base : Nat} {e : TypeId} {size : Nat} {v : Value} {n : Nat} {xs : List Value} (h : w.ownsRow base e size v n xs) : w.ownsRow 0 e size v n xs := by
  refine ⟨h.1, ?_⟩
  rcases h.2 with h0 | ⟨g, cap, cur, q1, q2, q3⟩
  · exact .inl h0
  · exact .inr ⟨g, cap, cur, q1, Nat.zero_le _, q3⟩
theorem Bk.block {t : TypeId} {W W' : World} {v : Value} {l : List Reg} (h : Bk t W v l) (hb : ∀ g, v.ownBlock = some g → W'.heap[g]? = W.heap[g]?) : Bk t W' v l := by
  refine ⟨h.1, ?_⟩
  rcases h.2 with h0 | ⟨g, cap, cur, rfl, q2, q3, q4⟩
  · exact .inl h0
  · exact .inr ⟨g, cap, cur, rfl, q2, (hb g rfl).trans q3, q4⟩

set_option maxRecDepth 100000 in
set_option maxHeartbeats 2000000 in
theorem Seen1_stops (m : Nat) (hm : 2 ≤ m) (bb nbx p o n M : Nat) (v : Value) (nb : ByteArray → Nat) (l : List Reg) (name : ByteArray) (w : World) (hv : ∃ r, v = .map r) (h1 : w.cell? ⟨bb, 0, none⟩ = some (.pointer (some ⟨p, o, none⟩))) (h2 : w.cell? ⟨nbx, 0, none⟩ = some (.string name)) (hc : w.cell? ⟨p, o, none⟩ = some v)
    (hB : BookAt w v M nb l n) (hS : SortedB l) (hs : name.size ≤ maxLen) (hn : n ≤ 100000) (hll : l.length ≤ 100000) (fp : World → Nat → Prop) (hfp : FpOk fp w) :
    SeqStopsK Fence.wide m Tryz.prog 80 #[.pointer (some ⟨bb, 0, none⟩), .pointer (some ⟨nbx, 0, none⟩)] (fun x : Reg => #[Value.agg #[.string x.n, .string x.f, .int .i64 x.c, .int .i64 x.r, .string x.v]]) (KeepL fp w.heap.size)
      (fun xs => xs = fieldsL l name) (fun pre => pre ≠ [] ∧ ∃ k, pre = (fieldsL l name).take k) (fieldsL l name).length w := fun lp J Jx W hW hJ hJx hY h0 => by
  have lt_of : ∀ {q j : Nat} {u : Value}, w.cell? ⟨q, j, none⟩ = some u → q < w.heap.size := fun {q j u} h => by
    rcases Nat.lt_or_ge q w.heap.size with h' | h'
    · exact h'
    · simp [World.cell?, Array.getElem?_eq_none h'] at h
  have l1 := lt_of h1
  have l2 := lt_of h2
  have l3 := lt_of hc
  have hWs := hW.size
  obtain ⟨r0, rfl⟩ := hv
  obtain ⟨r1, hr1⟩ := conV_map l nb name
  have c1 : W.cell? ⟨bb, 0, none⟩ = some (.pointer (some ⟨p, o, none⟩)) := (hW.cell (p := ⟨bb, 0, none⟩) l1).trans h1
  have c2 : W.cell? ⟨nbx, 0, none⟩ = some (.string name) := (hW.cell (p := ⟨nbx, 0, none⟩) l2).trans h2
  have c3 : W.cell? ⟨p, o, none⟩ = some (.map r0) := (hW.cell (p := ⟨p, o, none⟩) l3).trans hc
  have hBW := hB.below hW
  have L1 : ∀ W', Below W.heap.size W W' → (Instr.lookup 104 (.map r0) (.string name) false).run Tryz.prog W' = .ok (.map r1) W' := fun W' h => by rw [← hr1]; exact (hBW.below h).contact hs
  have hso : ∀ W', Below W.heap.size W W' → Calls Tryz.prog 81 #[.func (.func 89) #[] #[.pointer (some ⟨W'.heap.size, 0, none⟩)], .func (.func 82) #[] #[]] (W'.alloc (.cells #[.map r1] 149))
      fun e w' => ∃ rv : Value, e = .returned rv ∧ w'.ownsRow W.heap.size 99 5 rv (fieldsL l name).length (rowCells (fieldsL l name)) ∧ Below W.heap.size W w' := fun W' h => by
    have hs' := h.size
    refine (sortedFunc_any W'.heap.size n (.map r0) M nb l name (W'.alloc (.cells #[.map r1] 149)) (hBW.below (h.alloc hs' _)) hS (by rw [hr1]; simp) hn hll).mono ?_
    rintro e w' ⟨rv, he, hrow, hb⟩
    refine ⟨rv, he, ⟨hrow.1, ?_⟩, (h.alloc hs' _).trans (hb.mono (by simp; omega))⟩
    rcases hrow.2 with h0 | ⟨g, cap, cur, q1, q2, q3⟩
    · exact .inl h0
    · exact .inr ⟨g, cap, cur, q1, by simp at q2; omega, q3⟩
  obtain ⟨F, hF⟩ : ∃ F, fieldsL l name = F := ⟨_, rfl⟩
  rw [hF] at hso hY ⊢
  have hFl : F.length ≤ 100000 := by rw [← hF]; exact Nat.le_trans (List.length_filter_le _ _) hll
  refine callsIn_of_wp Tryz.func80 rfl trivial ?_ rfl
  simp only [Tryz.ntmps80, List.size_toArray, List.length_cons, List.length_nil, Nat.reduceAdd, Nat.reduceSub, Array.replicate_succ, Array.replicate_zero, List.push_toArray, List.append_toArray, List.nil_append, List.cons_append]
  clear hc h1 h2 hB hF hS hBW hll
  gi_wp2
  gi_cut [13, 14, 15] from 24 (fun s13 s14 s15 wd => ∃ rv, s13 = rv ∧ s14 = .int .i64 F.length ∧ s15 = .int .i64 0 ∧ wd.ownsRow W.heap.size 99 5 rv F.length (rowCells F) ∧ Below W.heap.size W wd)
  case first =>
    have a1 := L1 W.drew (Below.refl _ _).drew
    have a2 := hso W.drew (Below.refl _ _).drew
    clear L1 hso hY hJ hJx hfp h0
    gi_region_with (first | (refine ⟨trivial, fun _ => by omega, ?_⟩; refine (callsIn_wide.2 (seen_any (.map r1) _ ⟨r1, rfl⟩)).mono ?_; rintro e w' ⟨rfl, rfl⟩) | (refine ⟨trivial, fun _ => by omega, ?_⟩; refine (callsIn_wide.2 a2).mono ?_; rintro e w2 ⟨rv, rfl, hrow, hb2⟩; obtain ⟨ra, rcap, hrv⟩ := ownsRow_shape hrow))
    all_goals gi_wp2
    all_goals gi_meet
    all_goals case rel => exact ⟨_, rfl, rfl, rfl, hrv ▸ hrow, hb2⟩
  case rest =>
    obtain ⟨rv, rfl, rfl, rfl, hrow, hb⟩ := hcut
    clear L1 hso c1 c2 c3
    obtain ⟨ra, rcap, rfl⟩ := ownsRow_shape hrow
    have hbk : Bk 99 wc (.slice ra F.length rcap) F := ownsRow_zero hrow
    have hra : ∀ g, ra = some ⟨g, 0, none⟩ → W.heap.size ≤ g := fun g e => by subst e; exact (hrow.lt g rfl).1
    have hnf : ∀ g, ra = some ⟨g, 0, none⟩ → ¬ fp wc g := fun g e h => by
      have h1 := hra g e
      have h2 := hfp.old _ hW _ (hfp.kept _ _ none hWs (below_grown hb) (fun r e => by cases e) _ h)
      omega
    have hJ0 : J [] wc := hJ _ _ _ none h0 (below_grown hb) (fun r e => by cases e)
    have hsz := hb.size
    clear hrow hb h0 hW
    gi_wp2
    gi_loopg [15] F.length (fun q s wr => ∃ k : Nat, q + k = F.length ∧ s = .int .i64 k ∧ Bk 99 wr (.slice ra F.length rcap) F ∧ J (F.take k) wr ∧ (∀ g, ra = some ⟨g, 0, none⟩ → ¬ fp wr g) ∧ W.heap.size ≤ wr.heap.size)
    case atStart => exact ⟨0, by omega, rfl, hbk, hJ0, hnf, hsz⟩
    case round =>
      obtain ⟨k, hq, rfl, hbk1, hJ1, hnf1, hsz1⟩ := hrel
      clear hbk hJ0 hnf hsz
      by_cases hlt : k < F.length
      · obtain ⟨g, rfl⟩ := hbk1.shape.2 (by intro h; simp [h] at hlt)
        obtain ⟨c0, c1, c2, c3, c4⟩ := hbk1.five k hlt
        have HT : Hid (F.take (k + 1) = F.take k ++ [reg F k]) := take_reg F k hlt
        have HBK : Hid (Bk 99 wr (.slice (some ⟨g, 0, none⟩) F.length rcap) F) := hbk1
        have hJ2 : J (F.take k) (wr.alloc (.cells #[.string (reg F k).n, .string (reg F k).f, .int .i64 (reg F k).c, .int .i64 (reg F k).r, .string (reg F k).v] 99)) := hJ _ _ _ none hJ1 (World.grownBy_alloc wr _ none) (fun r e => by cases e)
        obtain ⟨fn, tmps, assign, body, hy, hR⟩ := hY (F.take k) (reg F k) _ hJ2 (by simp; omega)
        have HNF : Hid (¬ fp (wr.alloc (.cells #[.string (reg F k).n, .string (reg F k).f, .int .i64 (reg F k).c, .int .i64 (reg F k).r, .string (reg F k).v] 99)) g) := fun h => hnf1 g rfl (hfp.kept _ _ none (by omega) (World.grownBy_alloc wr _ none) (fun r e => by cases e) _ h)
        have hgW := hra g rfl
        clear hY hJ hJx hJ1 hJ2 hbk1 hnf1 hra
        have hglt := HBK.out.lt
        gi_wp2
        refine ⟨fun _ => by omega, ?_⟩
        refine hR.mono ?_
        rintro e W5 (⟨rfl, hJ5, hk5⟩ | ⟨rfl, hx5⟩)
        · have hblk : W5.heap[g]? = wr.heap[g]? := by
            obtain ⟨o, ho⟩ : ∃ o, wr.heap[g]? = some o := ⟨_, Array.getElem?_eq_getElem hglt⟩
            have hoc : o.isCells = true := by
              obtain ⟨o2, ho2, h2⟩ := cells_of_cell c0
              rw [ho] at ho2; cases ho2; exact h2
            rw [ho]
            exact hk5.2.1 g o (by omega) HNF.out (by rw [Below.heap_alloc _ _ _ hglt]; exact ho) hoc
          have hB5 : Bk 99 W5 (.slice (some ⟨g, 0, none⟩) F.length rcap) F := HBK.out.block (fun g' e => by cases e; exact hblk)
          have hs5 : W.heap.size ≤ W5.heap.size := by have := hk5.1; simp at this; omega
          have hn5 : ¬ fp W5 g := fun h => by
            rcases hk5.2.2 g h with h1 | h1
            · exact HNF.out h1
            · simp at h1; omega
          gi_wp2
          gi_roundg (gk - 1)
          case measure => omega
          case rel => exact ⟨k + 1, by omega, by go_num, hB5, by rw [HT.out]; exact hJ5, fun g' e => by cases e; exact hn5, hs5⟩
        · gi_wp2
          refine bodyPost_ret (results_none rfl _ _ _) rfl ?_
          exact ⟨⟨_, rfl⟩, .inr ⟨F.take k ++ [reg F k], ⟨by simp, k + 1, HT.out.symm⟩, hx5⟩⟩
      · have e : F.take k = F := List.take_of_length_le (by omega)
        rw [e] at hJ1
        clear hY hJ hJx hbk1 hnf1
        gi_wp2
        go_end0
        exact ⟨⟨_, rfl⟩, .inl ⟨F, rfl, hJ1⟩⟩
end Go.Proofs.YtdfafhclhfijnaaGreatDoor
