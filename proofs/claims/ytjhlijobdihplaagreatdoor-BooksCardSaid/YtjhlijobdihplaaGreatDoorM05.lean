import Derived.Test.YtjhlijobdihplaaGreatDoorB5
namespace Go.Proofs.YtjhlijobdihplaaGreatDoor
open Go.RowKit Go.Maps

/-- from 'this name is new' on: the outer map is there -/
def Fresh (w : World) (M n : Nat) (nb : ByteArray → Nat) (l : List Reg) (x : Reg) : Prop := Maps2 w M nb l n ∧ SortedB l ∧ n < 100000 ∧ hasN l x.n = false ∧ x.n.size ≤ maxLen ∧ x.f.size ≤ maxLen

set_option maxRecDepth 100000 in
set_option maxHeartbeats 2000000 in
theorem take_new (p o M n : Nat) (nb : ByteArray → Nat) (l : List Reg) (x : Reg) (w : World) (hc : w.cell? ⟨p, o, none⟩ = some (.map (some M))) (hF : Fresh w M n nb l x) :
    Calls Tryz.prog 59 #[.pointer (some ⟨p, o, none⟩), .agg #[.string x.n, .string x.f, .int .i64 x.c, .int .i64 x.r, .string x.v]] w
      fun e w' => e = .returned (.tuple #[]) ∧ ∃ b, w.heap.size ≤ b ∧ Maps2 w' M (fun s => if s = x.n then b else nb s) (withL l x) (n + 1) ∧ w.grownBy w' (some M) := by
  obtain ⟨hM, hS, hn, hx, h1, h2⟩ := hF
  have hpl : p < w.heap.size := by
    rcases Nat.lt_or_ge p w.heap.size with h | h
    · exact h
    · simp [World.cell?, Array.getElem?_eq_none h] at hc
  have hMl := hM.1.lt
  have hpM : p ≠ M := by
    intro e
    obtain ⟨D, ⟨es, clock, hb, _⟩, _⟩ := hM.1
    rw [e] at hc
    simp [World.cell?, hb] at hc
  rw [withL_eq l x hS]
  have hB : ∀ w', Below w.heap.size w w' → BookAt w' (.map (some M)) M nb l n := fun w' hb => (show BookAt w (.map (some M)) M nb l n from .inr ⟨rfl, hM⟩).below hb
  have hcv : conV l nb x.n = .map none := by simp [conV, hx]
  have L1 : ∀ w', Below w.heap.size w w' → (Instr.lookup 104 (.map (some M)) (.string x.n) false).run Tryz.prog w' = .ok (.map none) w' := by
    intro w' hb
    rw [(hB w' hb).contact h1, hx]; rfl
  have L2 : ∀ w', Below w.heap.size w w' → (Instr.lookup 150 (.map none) (.string x.f) true).run Tryz.prog w' = .ok (.tuple #[.agg #[.string ⟨#[]⟩, .string ⟨#[]⟩, .int .i64 0, .int .i64 0, .string ⟨#[]⟩], .bool false]) w' := by
    intro w' hb
    have := (hB w' hb).reg (s := x.n) h2
    rw [hcv, getR_noName hx] at this
    exact this
  have hE1 := fun w r => run_eql_map_nil (P := Tryz.prog) w 104 _ _ r Tryz.underlying104
  have hE2 := fun w r => run_eql_map_nil (P := Tryz.prog) w 150 _ _ r Tryz.underlying150
  have hW0 : Below w.heap.size w (w.alloc (.cells #[.string x.n, .string x.f, .int .i64 x.c, .int .i64 x.r, .string x.v] 99)) := (Below.refl _ _).alloc (Nat.le_refl _) _
  have hW1 : Below w.heap.size w ((w.alloc (.cells #[.string x.n, .string x.f, .int .i64 x.c, .int .i64 x.r, .string x.v] 99)).alloc (.cells #[.string ⟨#[]⟩, .string ⟨#[]⟩, .int .i64 0, .int .i64 0, .string ⟨#[]⟩] 99)) := hW0.alloc (by simp) _
  go_enter Tryz.func59, Tryz.ntmps59
  go_upto_region 1 with fail
  go_cut [4, 5] (fun s4 s5 wd => s4 = .pointer (some ⟨w.heap.size + 1, 0, none⟩) ∧ s5 = .bool false ∧ five wd w.heap.size x ∧ Below w.heap.size w wd ∧ w.heap.size < wd.heap.size)
  case first =>
    have a1 := L1 _ hW0.drew
    have a2 := L1 _ hW1.drew
    have b1 := L2 _ hW0.drew
    have b2 := L2 _ hW1.drew
    have HW : Hid (Below w.heap.size w ((w.alloc (.cells #[.string x.n, .string x.f, .int .i64 x.c, .int .i64 x.r, .string x.v] 99)).alloc (.cells #[.string ⟨#[]⟩, .string ⟨#[]⟩, .int .i64 0, .int .i64 0, .string ⟨#[]⟩] 99))) := hW1
    clear hM hB L1 L2 hW0 hW1 hx hS hE1 hE2 hcv hpM
    go_region
    all_goals
      clear a1 a2 b1 b2
      go_wp2_with fail
      go_meet
      case rel => exact ⟨rfl, rfl, ⟨by simp, by simp, by simp, by simp, by simp⟩, HW.out.drew, by simp; omega⟩
  case rest =>
    obtain ⟨rfl, rfl, hfx, hbw, hsz⟩ := hcut
    clear hW0 hW1
    have hcp : wc.cell? ⟨p, o, none⟩ = some (.map (some M)) := (hbw.cell (p := ⟨p, o, none⟩) hpl).trans hc
    have l1 := fun n => L1 (wc.drewN n) (below_drewN hbw n)
    have HM : Hid (Maps2 w M nb l n) := hM
    have HX : Hid (hasN l x.n = false) := hx
    have HF : Hid (five wc w.heap.size x) := hfx
    obtain ⟨x0, x1, x2, x3, x4⟩ := hfx
    have hmm := @run_makeMap Tryz.prog
    clear L1 L2 hB hM hx hcv hc
    go_wp2_with fail
    go_quiet (fail)
    generalize nq = nq1
    go_wp2_with fail
    go_quiet (fail)
    clear l1
    have hpw : p < wc.heap.size := by have := hbw.size; omega
    have hMw : M < wc.heap.size := by have := hbw.size; omega
    have hoM : MapIs Rout ((wc.drewN (nq1 + nq + 1)).alloc (.map #[] 0)) M (outerM l nb) n := HM.out.1.block (by
      rw [Below.heap_alloc _ _ _ (by exact hMw)]; exact hbw.block _ hMl)
    obtain ⟨w8, hrun8, hput8, hgrow8, hs8⟩ := hoM.put Tryz.underlying104 (by omega) h1 (Rout_mk wc.heap.size)
    have hin8 : MapIs Rin w8 wc.heap.size (fun _ => none) 0 := (MapIs_made Rin (wc.drewN (nq1 + nq + 1))).block (hgrow8.block _ (by exact (show wc.heap.size < (wc.drewN (nq1 + nq + 1)).heap.size + 1 from Nat.lt_succ_self _) |> fun h => by rw [World.size_alloc]; exact h) (fun e => by have := Option.some.inj e; exact absurd this (Nat.ne_of_gt hMw)))
    have hf8 : five w8 w.heap.size x := by
      have hb : ∀ k, k < wc.heap.size → k ≠ M → w8.heap[k]? = wc.heap[k]? := fun k hk hne => by
        rw [hgrow8.block k (by rw [World.size_alloc]; exact Nat.lt_succ_of_lt hk) (fun e => hne (Option.some.inj e)), Below.heap_alloc _ _ _ (by exact hk)]; rfl
      have hbk := hb w.heap.size hsz (by omega)
      exact ⟨(World.cell?_of_block (w := wc) (a := ⟨w.heap.size, 0, none⟩) hbk).trans x0, (World.cell?_of_block (w := wc) (a := ⟨w.heap.size, 1, none⟩) hbk).trans x1, (World.cell?_of_block (w := wc) (a := ⟨w.heap.size, 2, none⟩) hbk).trans x2, (World.cell?_of_block (w := wc) (a := ⟨w.heap.size, 3, none⟩) hbk).trans x3, (World.cell?_of_block (w := wc) (a := ⟨w.heap.size, 4, none⟩) hbk).trans x4⟩
    have hc8 : w8.cell? ⟨p, o, none⟩ = some (.map (some M)) := by
      rw [World.cell?_of_block (w := wc) (a := ⟨p, o, none⟩) (by
        rw [hgrow8.block p (by rw [World.size_alloc]; exact Nat.lt_succ_of_lt hpw) (fun e => hpM (Option.some.inj e)), Below.heap_alloc _ _ _ (by exact hpw)]; rfl)]
      exact hcp
    have hg8 : w.grownBy w8 (some M) := ⟨hgrow8.os.trans hbw.os, hgrow8.tape.trans hbw.tape, hgrow8.output.trans hbw.output, Nat.le_trans hbw.size (Nat.le_trans (by rw [World.size_alloc]; exact Nat.le_succ _) hgrow8.size), fun k hk hne => by
      rw [hgrow8.block k (by rw [World.size_alloc]; exact Nat.lt_succ_of_lt (Nat.lt_of_lt_of_le hk hbw.size)) hne, Below.heap_alloc _ _ _ (by exact Nat.lt_of_lt_of_le hk hbw.size)]; exact hbw.block k hk⟩
    have h8s : wc.heap.size < w8.heap.size := hin8.lt
    obtain ⟨b0, hb0⟩ : ∃ b0, b0 = wc.heap.size := ⟨_, rfl⟩
    have hb0w : w.heap.size ≤ b0 := by omega
    have HP8 : Hid (MapIs Rout w8 M (fun q => if q = x.n then some (blockD b0) else outerM l nb q) (n + 1)) := by
      show MapIs _ _ _ _ _
      rw [hb0]; exact hput8
    have HI8 : Hid (MapIs Rin w8 b0 (fun _ => none) 0) := by
      show MapIs _ _ _ _ _
      rw [hb0]; exact hin8
    clear hb0
    have HG8 : Hid (w.grownBy w8 (some M)) := hg8
    have HF8 : Hid (five w8 w.heap.size x) := hf8
    have HC8 : Hid (w8.cell? ⟨p, o, none⟩ = some (.map (some M))) := hc8
    clear hoM hput8 hgrow8 hs8 hin8 hg8 hf8 hc8
    go_wp2_with fail
    go_upto_region 6 with fail
    go_cut [] (fun wd => wd = w8)
    case first =>
      have y0 : ((wc.drewN (nq1 + nq + 1)).alloc (.map #[] 0)).cell? ⟨w.heap.size, 0, none⟩ = some (.string x.n) := by
        rw [World.cell?_alloc_lt _ _ ⟨w.heap.size, 0, none⟩ (by exact hsz)]; exact x0
      have y1 : ((wc.drewN (nq1 + nq + 1)).alloc (.map #[] 0)).cell? ⟨p, o, none⟩ = some (.map (some M)) := by
        rw [World.cell?_alloc_lt _ _ ⟨p, o, none⟩ (by exact hpw)]; exact hcp
      go_region
      all_goals
        go_wp2_with fail
        go_meet
        case rel => rfl
    case rest =>
      subst hcut
      clear hrun8 h8s x0 x1 x2 x3 x4 hcp hbw hsz hpw hMw HF hmm
      obtain ⟨x0, x1, x2, x3, x4⟩ := HF8.out
      have hcp := HC8.out
      obtain ⟨v9, ps9, e9, hv9⟩ := (show MapIs Rout wc.drew M _ _ from HP8.out).hit Tryz.underlying104 (zeroCon_run _) h1 (d := blockD b0) (by simp) false
      rw [Rout_inv hv9] at e9
      simp only [Bool.false_eq_true, if_false] at e9
      clear hv9
      obtain ⟨w9, hrun, hput, hgrow, hs9⟩ := (show MapIs Rin wc.drew b0 (fun _ => none) 0 from HI8.out).put Tryz.underlying150 (by omega) h2 (Rin_mk x)
      unfold regV at hrun
      have hin := (show MapIs Rin wc.drew b0 (fun _ => none) 0 from HI8.out).lt
      have hout9 : MapIs Rout w9 M (fun q => if q = x.n then some (blockD b0) else outerM l nb q) (n + 1) := (show MapIs Rout wc.drew M _ _ from HP8.out).block (hgrow.block M (show MapIs Rout wc.drew M _ _ from HP8.out).lt (fun e => by have := Option.some.inj e; omega))
      have hg9 : ∀ k, k < w.heap.size → some k ≠ some M → w9.heap[k]? = w.heap[k]? := fun k hk hne => (hgrow.block k (Nat.lt_of_lt_of_le hk HG8.out.size) (fun e => by have := Option.some.inj e; omega)).trans (HG8.out.block k hk hne)
      have HO : Hid (MapIs Rout w9 M (fun q => if q = x.n then some (blockD b0) else outerM l nb q) (n + 1)) := hout9
      have HP : Hid (MapIs Rin w9 b0 (fun q => if q = x.f then some (regD x) else none) 1) := hput
      have HR : Hid (w.grownBy w9 (some M)) := ⟨hgrow.os.trans HG8.out.os, hgrow.tape.trans HG8.out.tape, hgrow.output.trans HG8.out.output, Nat.le_trans HG8.out.size hgrow.size, hg9⟩
      clear hput hgrow hs9 hout9 hg9 HF8 HC8 HI8 HP8 HG8
      go_wp2_with fail
      go_region
      all_goals
        go_wp2_with fail
        go_end0
        exact ⟨rfl, b0, hb0w, maps2_new HM.out hS HX.out HO.out HP.out hb0w (fun k hk hne => HR.out.block k hk (fun e => hne (Option.some.inj e))), HR.out⟩
end Go.Proofs.YtjhlijobdihplaaGreatDoor
namespace Go.Proofs.YtjhlijobdihplaaGreatDoor
open Go.RowKit Go.Maps

/-- w' is w, but for one cell of block p (and for new blocks) -/
structure OneCell (w w' : World) (p o : Nat) : Prop where
  os : w'.os = w.os
  tape : w'.tape = w.tape
  output : w'.output = w.output
  size : w.heap.size ≤ w'.heap.size
  block : ∀ k, k < w.heap.size → k ≠ p → w'.heap[k]? = w.heap[k]?
  cell : ∀ j, j ≠ o → w'.cell? ⟨p, j, none⟩ = w.cell? ⟨p, j, none⟩
  frozen : ∀ j, w'.frozen? ⟨p, j, none⟩ = w.frozen? ⟨p, j, none⟩
  kind : ∀ t, (∃ cs, w.heap[p]? = some (.cells cs t (0, 0))) → ∃ cs, w'.heap[p]? = some (.cells cs t (0, 0))

set_option maxRecDepth 100000 in
set_option maxHeartbeats 2000000 in
theorem take_nil (p o : Nat) (nb : ByteArray → Nat) (x : Reg) (w : World) (hc : w.cell? ⟨p, o, none⟩ = some (.map none)) (hfr : w.frozen? ⟨p, o, none⟩ = false) (h1 : x.n.size ≤ maxLen) (h2 : x.f.size ≤ maxLen) :
    Calls Tryz.prog 59 #[.pointer (some ⟨p, o, none⟩), .agg #[.string x.n, .string x.f, .int .i64 x.c, .int .i64 x.r, .string x.v]] w
      fun e w' => e = .returned (.tuple #[]) ∧ ∃ M b, w.heap.size ≤ M ∧ w.heap.size ≤ b ∧ Maps2 w' M (fun s => if s = x.n then b else nb s) (withL [] x) 1 ∧ w'.cell? ⟨p, o, none⟩ = some (.map (some M)) ∧ OneCell w w' p o := by
  have hpl : p < w.heap.size := by
    rcases Nat.lt_or_ge p w.heap.size with h | h
    · exact h
    · simp [World.cell?, Array.getElem?_eq_none h] at hc
  rw [withL_eq [] x List.Pairwise.nil]
  have L1 := fun w' => Maps.look_nil (w := w') (P := Tryz.prog) false strLaw Tryz.underlying104 (zeroCon_run w') (keyOf_s h1)
  have L2 := fun w' => Maps.look_nil (w := w') (P := Tryz.prog) true strLaw Tryz.underlying150 (zeroReg_run w') (keyOf_s h2)
  simp only [Bool.false_eq_true, if_false, if_true] at L1 L2
  have hE1 := fun w r => run_eql_map_nil (P := Tryz.prog) w 104 _ _ r Tryz.underlying104
  have hE2 := fun w r => run_eql_map_nil (P := Tryz.prog) w 150 _ _ r Tryz.underlying150
  have hmm := @run_makeMap Tryz.prog
  go_enter Tryz.func59, Tryz.ntmps59
  go_upto_region 1 with fail
  go_cut [4, 5] (fun s4 s5 wd => s4 = .pointer (some ⟨w.heap.size + 1, 0, none⟩) ∧ s5 = .bool false ∧ five wd w.heap.size x ∧ Below w.heap.size w wd ∧ w.heap.size < wd.heap.size)
  case first =>
    have HW : Hid (∀ o2, Below w.heap.size w ((w.alloc (.cells #[.string x.n, .string x.f, .int .i64 x.c, .int .i64 x.r, .string x.v] 99)).alloc o2)) := fun o2 => ((Below.refl _ w).alloc (Nat.le_refl _) _).alloc (by simp) _
    clear hE1 hE2 hmm
    go_region
    all_goals
      go_wp2_with fail
      go_meet
      case rel => exact ⟨rfl, rfl, ⟨by simp, by simp, by simp, by simp, by simp⟩, (HW.out _).drew, by simp; omega⟩
  case rest =>
    obtain ⟨rfl, rfl, hfx, hbw, hsz⟩ := hcut
    have hcp : wc.cell? ⟨p, o, none⟩ = some (.map none) := (hbw.cell (p := ⟨p, o, none⟩) hpl).trans hc
    have hcf : wc.frozen? ⟨p, o, none⟩ = false := (hbw.frozen (p := ⟨p, o, none⟩) hpl).trans hfr
    have hpw : p < wc.heap.size := by have := hbw.size; omega
    have HF : Hid (five wc w.heap.size x) := hfx
    have HB : Hid (Below w.heap.size w wc) := hbw
    clear hfx hbw L2 hc hfr
    go_wp2_with fail
    go_quiet (fail)
    go_upto_if 31 with fail
    go_cut [] (fun wd => ∃ b1, w.heap.size < b1 ∧ wd.cell? ⟨p, o, none⟩ = some (.map (some b1)) ∧ MapIs Rout wd b1 (fun _ => none) 0 ∧ five wd w.heap.size x ∧ OneCell w wd p o ∧ w.heap.size < wd.heap.size)
    case first =>
      have fz : ((wc.drewN nq).alloc (.map #[] 0)).frozen? ⟨p, o, none⟩ = false := by
        rw [World.frozen?_alloc_old _ _ ⟨p, o, none⟩ (by exact Nat.ne_of_lt hpw)]; exact hcf
      have cz : ((wc.drewN nq).alloc (.map #[] 0)).cell? ⟨p, o, none⟩ = some (.map none) := by
        rw [World.cell?_alloc_lt _ _ ⟨p, o, none⟩ (by exact hpw)]; exact hcp
      have HC : Hid (((wc.drewN nq).alloc (.map #[] 0)).cell? ⟨p, o, none⟩ = some (.map none)) := cz
      go_wp2_with fail
      go_meet
      case rel =>
        have hb : ∀ k, k < wc.heap.size → k ≠ p → (((wc.drewN nq).alloc (.map #[] 0)).setCell ⟨p, o, none⟩ (.map (some wc.heap.size))).heap[k]? = wc.heap[k]? := fun k hk hne => by
          rw [Below.heap_setCell _ _ _ _ hne, Below.heap_alloc _ _ _ (by exact hk)]; rfl
        have hBs := HB.out.size
        obtain ⟨x0, x1, x2, x3, x4⟩ := HF.out
        have hbk := hb w.heap.size hsz (by omega)
        refine ⟨wc.heap.size, hsz, World.cell?_setCell_same _ _ _ HC.out, ?_, ⟨(World.cell?_of_block (w := wc) (a := ⟨w.heap.size, 0, none⟩) hbk).trans x0, (World.cell?_of_block (w := wc) (a := ⟨w.heap.size, 1, none⟩) hbk).trans x1, (World.cell?_of_block (w := wc) (a := ⟨w.heap.size, 2, none⟩) hbk).trans x2, (World.cell?_of_block (w := wc) (a := ⟨w.heap.size, 3, none⟩) hbk).trans x3, (World.cell?_of_block (w := wc) (a := ⟨w.heap.size, 4, none⟩) hbk).trans x4⟩, ?_, ?_⟩
        · refine (MapIs_made Rout (wc.drewN nq)).block ?_
          exact Below.heap_setCell _ _ _ _ (by exact Nat.ne_of_gt hpw)
        · refine ⟨HB.out.os, HB.out.tape, HB.out.output, ?_, fun k hk hne => (hb k (by omega) hne).trans (HB.out.block k hk), fun j hj => ?_, fun j => ?_, fun t ⟨cs, hcs⟩ => ⟨_, heap_setCell_same _ p o cs t _ (by rw [Below.heap_alloc _ _ _ (by exact hpw)]; exact (HB.out.block p hpl).trans hcs)⟩⟩
          · simp [World.setCell]; exact Nat.le_succ_of_le hBs
          · rw [World.cell?_setCell_other _ _ _ _ (by intro e; injection e with _ e2 _; exact hj e2.symm), World.cell?_alloc_lt _ _ ⟨p, j, none⟩ (by exact hpw)]
            exact HB.out.cell (p := ⟨p, j, none⟩) hpl
          · rw [World.frozen?_setCell, World.frozen?_alloc_old _ _ ⟨p, j, none⟩ (by exact Nat.ne_of_lt hpw)]
            exact HB.out.frozen (p := ⟨p, j, none⟩) hpl
        · simp [World.setCell]; exact Nat.lt_succ_of_lt hsz
    case rest =>
      clear hcp hcf hpw HF HB hsz
      obtain ⟨M, hMw, hcp, hoM, hfx, h1c, hsz⟩ := hcut
      have hpw : p < wc.heap.size := by have := h1c.size; omega
      have hMl : M < wc.heap.size := hoM.lt
      have l1 : ∀ n, (Instr.lookup 104 (.map (some M)) (.string x.n) false).run Tryz.prog (wc.drewN n) = .ok (.map none) (wc.drewN n) := by
        intro n
        have := (show MapIs Rout (wc.drewN n) M (fun _ => none) 0 from hoM).miss Tryz.underlying104 (zeroCon_run _) h1 rfl false
        simpa using this
      have HO : Hid (MapIs Rout wc M (fun _ => none) 0) := hoM
      have H1 : Hid (OneCell w wc p o) := h1c
      have HF : Hid (five wc w.heap.size x) := hfx
      obtain ⟨x0, x1, x2, x3, x4⟩ := hfx
      clear hoM h1c L1
      go_wp2_with fail
      go_quiet (fail)
      clear l1
      have hoM : MapIs Rout ((wc.drewN (nq + 1)).alloc (.map #[] 0)) M (fun _ => none) 0 := HO.out.block (by
        rw [Below.heap_alloc _ _ _ (by exact hMl)]; rfl)
      obtain ⟨w8, hrun8, hput8, hgrow8, hs8⟩ := hoM.put Tryz.underlying104 (by omega) h1 (Rout_mk wc.heap.size)
      have hin8 : MapIs Rin w8 wc.heap.size (fun _ => none) 0 := (MapIs_made Rin (wc.drewN (nq + 1))).block (hgrow8.block _ (by rw [World.size_alloc]; exact Nat.lt_succ_self _) (fun e => by have := Option.some.inj e; exact absurd this (Nat.ne_of_gt hMl)))
      have hb8 : ∀ k, k < wc.heap.size → k ≠ M → w8.heap[k]? = wc.heap[k]? := fun k hk hne => by
        rw [hgrow8.block k (by rw [World.size_alloc]; exact Nat.lt_succ_of_lt hk) (fun e => hne (Option.some.inj e)), Below.heap_alloc _ _ _ (by exact hk)]; rfl
      have hbk := hb8 w.heap.size hsz (by omega)
      have hf8 : five w8 w.heap.size x := ⟨(World.cell?_of_block (w := wc) (a := ⟨w.heap.size, 0, none⟩) hbk).trans x0, (World.cell?_of_block (w := wc) (a := ⟨w.heap.size, 1, none⟩) hbk).trans x1, (World.cell?_of_block (w := wc) (a := ⟨w.heap.size, 2, none⟩) hbk).trans x2, (World.cell?_of_block (w := wc) (a := ⟨w.heap.size, 3, none⟩) hbk).trans x3, (World.cell?_of_block (w := wc) (a := ⟨w.heap.size, 4, none⟩) hbk).trans x4⟩
      have hpk := hb8 p hpw (by omega)
      have hc8 : w8.cell? ⟨p, o, none⟩ = some (.map (some M)) := (World.cell?_of_block (w := wc) (a := ⟨p, o, none⟩) hpk).trans hcp
      have h18 : OneCell w w8 p o := by
        have h1 := H1.out
        refine ⟨hgrow8.os.trans h1.os, hgrow8.tape.trans h1.tape, hgrow8.output.trans h1.output, Nat.le_trans h1.size (Nat.le_trans (by rw [World.size_alloc]; exact Nat.le_succ _) hgrow8.size), fun k hk hne => (hb8 k (Nat.lt_of_lt_of_le hk h1.size) (by omega)).trans (h1.block k hk hne), fun j hj => (World.cell?_of_block (w := wc) (a := ⟨p, j, none⟩) hpk).trans (h1.cell j hj), fun j => (World.frozen?_of_block (w := wc) (a := ⟨p, j, none⟩) hpk).trans (h1.frozen j), fun t h => by obtain ⟨cs, hcs⟩ := h1.kind t h; exact ⟨cs, hpk.trans hcs⟩⟩
      have h8s : wc.heap.size < w8.heap.size := hin8.lt
      obtain ⟨b0, hb0⟩ : ∃ b0, b0 = wc.heap.size := ⟨_, rfl⟩
      have hb0w : w.heap.size < b0 := by omega
      have hb0M : M < b0 := by omega
      have HP8 : Hid (MapIs Rout w8 M (fun q => if q = x.n then some (blockD b0) else none) 1) := by
        show MapIs _ _ _ _ _
        rw [hb0]; exact hput8
      have HI8 : Hid (MapIs Rin w8 b0 (fun _ => none) 0) := by
        show MapIs _ _ _ _ _
        rw [hb0]; exact hin8
      clear hb0
      have HG8 : Hid (OneCell w w8 p o) := h18
      have HF8 : Hid (five w8 w.heap.size x) := hf8
      have HC8 : Hid (w8.cell? ⟨p, o, none⟩ = some (.map (some M))) := hc8
      clear hoM hput8 hgrow8 hs8 hin8 hf8 hc8 h18 hb8 hbk hpk
      go_wp2_with fail
      go_upto_region 6 with fail
      go_cut [] (fun wd => wd = w8)
      case first =>
        have y0 : ((wc.drewN (nq + 1)).alloc (.map #[] 0)).cell? ⟨w.heap.size, 0, none⟩ = some (.string x.n) := by
          rw [World.cell?_alloc_lt _ _ ⟨w.heap.size, 0, none⟩ (by exact hsz)]; exact x0
        have y1 : ((wc.drewN (nq + 1)).alloc (.map #[] 0)).cell? ⟨p, o, none⟩ = some (.map (some M)) := by
          rw [World.cell?_alloc_lt _ _ ⟨p, o, none⟩ (by exact hpw)]; exact hcp
        go_region
        all_goals
          go_wp2_with fail
          go_meet
          case rel => rfl
      case rest =>
        subst hcut
        clear hrun8 h8s x0 x1 x2 x3 x4 hcp hsz hpw hMl HF hmm
        obtain ⟨x0, x1, x2, x3, x4⟩ := HF8.out
        have hcp := HC8.out
        obtain ⟨v9, ps9, e9, hv9⟩ := (show MapIs Rout wc.drew M _ _ from HP8.out).hit Tryz.underlying104 (zeroCon_run _) h1 (d := blockD b0) (by simp) false
        rw [Rout_inv hv9] at e9
        simp only [Bool.false_eq_true, if_false] at e9
        clear hv9
        obtain ⟨w9, hrun, hput, hgrow, hs9⟩ := (show MapIs Rin wc.drew b0 (fun _ => none) 0 from HI8.out).put Tryz.underlying150 (by omega) h2 (Rin_mk x)
        unfold regV at hrun
        have hin := (show MapIs Rin wc.drew b0 (fun _ => none) 0 from HI8.out).lt
        have hin' : b0 < wc.heap.size := hin
        have hb9 : ∀ k, k < wc.heap.size → k ≠ b0 → w9.heap[k]? = wc.heap[k]? := fun k hk hne => hgrow.block k hk (fun e => hne (Option.some.inj e))
        have hpk := hb9 p (by omega) (by omega)
        have HO9 : Hid (MapIs Rout w9 M (fun q => if q = x.n then some (blockD b0) else none) 1) := (show MapIs Rout wc M _ _ from HP8.out).block (hb9 M (by omega) (by omega))
        have HP : Hid (MapIs Rin w9 b0 (fun q => if q = x.f then some (regD x) else none) 1) := hput
        have HC9 : Hid (w9.cell? ⟨p, o, none⟩ = some (.map (some M))) := (World.cell?_of_block (w := wc) (a := ⟨p, o, none⟩) hpk).trans HC8.out
        have HR : Hid (OneCell w w9 p o) := by
          have h1 := HG8.out
          have hs : w.heap.size ≤ wc.heap.size := h1.size
          exact ⟨hgrow.os.trans h1.os, hgrow.tape.trans h1.tape, hgrow.output.trans h1.output, Nat.le_trans h1.size hgrow.size, fun k hk hne => (hb9 k (by omega) (by omega)).trans (h1.block k hk hne), fun j hj => (World.cell?_of_block (w := wc) (a := ⟨p, j, none⟩) hpk).trans (h1.cell j hj), fun j => (World.frozen?_of_block (w := wc) (a := ⟨p, j, none⟩) hpk).trans (h1.frozen j), fun t h => by obtain ⟨cs, hcs⟩ := h1.kind t h; exact ⟨cs, hpk.trans hcs⟩⟩
        clear hput hgrow hs9 HF8 HC8 HI8 HP8 HG8 hb9 hpk hin
        go_wp2_with fail
        go_region
        all_goals
          go_wp2_with fail
          go_end0
          refine ⟨rfl, M, b0, by omega, by omega, ?_, HC9.out, HR.out⟩
          have hN : ∀ s, hasN (withR [] x) s = decide (x.n = s) := by
            intro s
            rw [hasN_withR List.Pairwise.nil]; simp [hasN]
          refine ⟨HO9.out.congr (fun s => ?_), fun s hs => ?_, fun s t hs ht _ => ?_⟩
          · by_cases e : s = x.n
            · simp [outerM, hN, e]
            · simp [outerM, hN, e, Ne.symm e]
          · rw [hN] at hs
            have e := of_decide_eq_true hs
            subst e
            simp only [if_true]
            refine ⟨HP.out.congr (fun q => ?_), by omega⟩
            rw [innerM_with List.Pairwise.nil (by intro y hy; simp [getR] at hy)]
            by_cases e2 : q = x.f
            · simp [e2]
            · simp [e2, innerM, getR]
          · rw [hN] at hs ht
            exact (of_decide_eq_true hs).symm.trans (of_decide_eq_true ht)
end Go.Proofs.YtjhlijobdihplaaGreatDoor
