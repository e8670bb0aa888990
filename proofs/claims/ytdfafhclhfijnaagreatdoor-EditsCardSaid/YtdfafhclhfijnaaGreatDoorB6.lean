import Derived.Test.YtdfafhclhfijnaaGreatDoorB5
namespace Go.Proofs.YtdfafhclhfijnaaGreatDoor
open Go.RowKit Go.Maps

/-- from 'this name is new' on: the outer map is there -/
def Fresh (w : World) (M n : Nat) (nb : ByteArray → Nat) (l : List Reg) (x : Reg) : Prop := Maps2 w M nb l n ∧ SortedB l ∧ n < 100000 ∧ hasN l x.n = false ∧ x.n.size ≤ maxLen ∧ x.f.size ≤ maxLen

set_option maxRecDepth 100000 in
set_option maxHeartbeats 2000000 in
theorem take_new (p o M n : Nat) (nb : ByteArray → Nat) (l : List Reg) (x : Reg) (w : World) (hc : w.cell? ⟨p, o, none⟩ = some (.map (some M))) (hF : Fresh w M n nb l x) :
    Calls Tryz.prog 57 #[.pointer (some ⟨p, o, none⟩), .agg #[.string x.n, .string x.f, .int .i64 x.c, .int .i64 x.r, .string x.v]] w
      fun e w' => e = .returned (.tuple #[]) ∧ ∃ b, w.heap.size ≤ b ∧ Maps2 w' M (fun s => if s = x.n then b else nb s) (withL l x) (n + 1) ∧ w.grownBy w' (some M) := by
  obtain ⟨hM, hS, hn, hx, h1, h2⟩ := hF
  have hpl : p < w.heap.size := by
    rcases Nat.lt_or_ge p w.heap.size with h | h
    · exact h
    · simp [World.cell?, Array.getElem?_eq_none h] at hc
  have hMl := hM.1.lt
  have hpM : p ≠ M := by
    intro e
    obtain ⟨D, ⟨es, clock, hb, _⟩, _⟩ := hM.1
    rw [e] at hc
    simp [World.cell?, hb] at hc
  rw [withL_eq l x hS]
  have hB : ∀ w', Below w.heap.size w w' → BookAt w' (.map (some M)) M nb l n := fun w' hb => (show BookAt w (.map (some M)) M nb l n from .inr ⟨rfl, hM⟩).below hb
  have hcv : conV l nb x.n = .map none := by simp [conV, hx]
  have L1 : ∀ w', Below w.heap.size w w' → (Instr.lookup 104 (.map (some M)) (.string x.n) false).run Tryz.prog w' = .ok (.map none) w' := by
    intro w' hb
    rw [(hB w' hb).contact h1, hx]; rfl
  have L2 : ∀ w', Below w.heap.size w w' → (Instr.lookup 149 (.map none) (.string x.f) true).run Tryz.prog w' = .ok (.tuple #[.agg #[.string ⟨#[]⟩, .string ⟨#[]⟩, .int .i64 0, .int .i64 0, .string ⟨#[]⟩], .bool false]) w' := by
    intro w' hb
    have := (hB w' hb).reg (s := x.n) h2
    rw [hcv, getR_noName hx] at this
    exact this
  have hE1 := fun w r => run_eql_map_nil (P := Tryz.prog) w 104 _ _ r Tryz.underlying104
  have hE2 := fun w r => run_eql_map_nil (P := Tryz.prog) w 149 _ _ r Tryz.underlying149
  have hW0 : Below w.heap.size w (w.alloc (.cells #[.string x.n, .string x.f, .int .i64 x.c, .int .i64 x.r, .string x.v] 99)) := (Below.refl _ _).alloc (Nat.le_refl _) _
  have hW1 : Below w.heap.size w ((w.alloc (.cells #[.string x.n, .string x.f, .int .i64 x.c, .int .i64 x.r, .string x.v] 99)).alloc (.cells #[.string ⟨#[]⟩, .string ⟨#[]⟩, .int .i64 0, .int .i64 0, .string ⟨#[]⟩] 99)) := hW0.alloc (by simp) _
  go_enter Tryz.func57, Tryz.ntmps57
  go_upto_region 1 with fail
  go_cut [4, 5] (fun s4 s5 wd => s4 = .pointer (some ⟨w.heap.size + 1, 0, none⟩) ∧ s5 = .bool false ∧ five wd w.heap.size x ∧ Below w.heap.size w wd ∧ w.heap.size < wd.heap.size)
  case first =>
    have a1 := L1 _ hW0.drew
    have a2 := L1 _ hW1.drew
    have b1 := L2 _ hW0.drew
    have b2 := L2 _ hW1.drew
    have HW : Hid (Below w.heap.size w ((w.alloc (.cells #[.string x.n, .string x.f, .int .i64 x.c, .int .i64 x.r, .string x.v] 99)).alloc (.cells #[.string ⟨#[]⟩, .string ⟨#[]⟩, .int .i64 0, .int .i64 0, .string ⟨#[]⟩] 99))) := hW1
    clear hM hB L1 L2 hW0 hW1 hx hS hE1 hE2 hcv hpM
    go_region
    all_goals
      clear a1 a2 b1 b2
      go_wp2_with fail
      go_meet
      case rel => exact ⟨rfl, rfl, ⟨by simp, by simp, by simp, by simp, by simp⟩, HW.out.drew, by simp; omega⟩
  case rest =>
    obtain ⟨rfl, rfl, hfx, hbw, hsz⟩ := hcut
    clear hW0 hW1
    have hcp : wc.cell? ⟨p, o, none⟩ = some (.map (some M)) := (hbw.cell (p := ⟨p, o, none⟩) hpl).trans hc
    have l1 := fun n => L1 (wc.drewN n) (below_drewN hbw n)
    have HM : Hid (Maps2 w M nb l n) := hM
    have HX : Hid (hasN l x.n = false) := hx
    have HF : Hid (five wc w.heap.size x) := hfx
    obtain ⟨x0, x1, x2, x3, x4⟩ := hfx
    have hmm := @run_makeMap Tryz.prog
    clear L1 L2 hB hM hx hcv hc
    go_wp2_with fail
    go_quiet (fail)
    generalize nq = nq1
    go_wp2_with fail
    go_quiet (fail)
    clear l1
    have hpw : p < wc.heap.size := by have := hbw.size; omega
    have hMw : M < wc.heap.size := by have := hbw.size; omega
    have hoM : MapIs Rout ((wc.drewN (nq1 + nq + 1)).alloc (.map #[] 0)) M (outerM l nb) n := HM.out.1.block (by
      rw [Below.heap_alloc _ _ _ (by exact hMw)]; exact hbw.block _ hMl)
    obtain ⟨w8, hrun8, hput8, hgrow8, hs8⟩ := hoM.put Tryz.underlying104 (by omega) h1 (Rout_mk wc.heap.size)
    have hin8 : MapIs Rin w8 wc.heap.size (fun _ => none) 0 := (MapIs_made Rin (wc.drewN (nq1 + nq + 1))).block (hgrow8.block _ (by exact (show wc.heap.size < (wc.drewN (nq1 + nq + 1)).heap.size + 1 from Nat.lt_succ_self _) |> fun h => by rw [World.size_alloc]; exact h) (fun e => by have := Option.some.inj e; exact absurd this (Nat.ne_of_gt hMw)))
    have hf8 : five w8 w.heap.size x := by
      have hb : ∀ k, k < wc.heap.size → k ≠ M → w8.heap[k]? = wc.heap[k]? := fun k hk hne => by
        rw [hgrow8.block k (by rw [World.size_alloc]; exact Nat.lt_succ_of_lt hk) (fun e => hne (Option.some.inj e)), Below.heap_alloc _ _ _ (by exact hk)]; rfl
      have hbk := hb w.heap.size hsz (by omega)
      exact ⟨(World.cell?_of_block (w := wc) (a := ⟨w.heap.size, 0, none⟩) hbk).trans x0, (World.cell?_of_block (w := wc) (a := ⟨w.heap.size, 1, none⟩) hbk).trans x1, (World.cell?_of_block (w := wc) (a := ⟨w.heap.size, 2, none⟩) hbk).trans x2, (World.cell?_of_block (w := wc) (a := ⟨w.heap.size, 3, none⟩) hbk).trans x3, (World.cell?_of_block (w := wc) (a := ⟨w.heap.size, 4, none⟩) hbk).trans x4⟩
    have hc8 : w8.cell? ⟨p, o, none⟩ = some (.map (some M)) := by
      rw [World.cell?_of_block (w := wc) (a := ⟨p, o, none⟩) (by
        rw [hgrow8.block p (by rw [World.size_alloc]; exact Nat.lt_succ_of_lt hpw) (fun e => hpM (Option.some.inj e)), Below.heap_alloc _ _ _ (by exact hpw)]; rfl)]
      exact hcp
    have hg8 : w.grownBy w8 (some M) := ⟨hgrow8.os.trans hbw.os, hgrow8.tape.trans hbw.tape, hgrow8.output.trans hbw.output, Nat.le_trans hbw.size (Nat.le_trans (by rw [World.size_alloc]; exact Nat.le_succ _) hgrow8.size), fun k hk hne => by
      rw [hgrow8.block k (by rw [World.size_alloc]; exact Nat.lt_succ_of_lt (Nat.lt_of_lt_of_le hk hbw.size)) hne, Below.heap_alloc _ _ _ (by exact Nat.lt_of_lt_of_le hk hbw.size)]; exact hbw.block k hk⟩
    have h8s : wc.heap.size < w8.heap.size := hin8.lt
    obtain ⟨b0, hb0⟩ : ∃ b0, b0 = wc.heap.size := ⟨_, rfl⟩
    have hb0w : w.heap.size ≤ b0 := by omega
    have HP8 : Hid (MapIs Rout w8 M (fun q => if q = x.n then some (blockD b0) else outerM l nb q) (n + 1)) := by
      show MapIs _ _ _ _ _
      rw [hb0]; exact hput8
    have HI8 : Hid (MapIs Rin w8 b0 (fun _ => none) 0) := by
      show MapIs _ _ _ _ _
      rw [hb0]; exact hin8
    clear hb0
    have HG8 : Hid (w.grownBy w8 (some M)) := hg8
    have HF8 : Hid (five w8 w.heap.size x) := hf8
    have HC8 : Hid (w8.cell? ⟨p, o, none⟩ = some (.map (some M))) := hc8
    clear hoM hput8 hgrow8 hs8 hin8 hg8 hf8 hc8
    go_wp2_with fail
    go_upto_region 6 with fail
    go_cut [] (fun wd => wd = w8)
    case first =>
      have y0 : ((wc.drewN (nq1 + nq + 1)).alloc (.map #[] 0)).cell? ⟨w.heap.size, 0, none⟩ = some (.string x.n) := by
        rw [World.cell?_alloc_lt _ _ ⟨w.heap.size, 0, none⟩ (by exact hsz)]; exact x0
      have y1 : ((wc.drewN (nq1 + nq + 1)).alloc (.map #[] 0)).cell? ⟨p, o, none⟩ = some (.map (some M)) := by
        rw [World.cell?_alloc_lt _ _ ⟨p, o, none⟩ (by exact hpw)]; exact hcp
      go_region
      all_goals
        go_wp2_with fail
        go_meet
        case rel => rfl
    case rest =>
      subst hcut
      clear hrun8 h8s x0 x1 x2 x3 x4 hcp hbw hsz hpw hMw HF hmm
      obtain ⟨x0, x1, x2, x3, x4⟩ := HF8.out
      have hcp := HC8.out
      obtain ⟨v9, ps9, e9, hv9⟩ := (show MapIs Rout wc.drew M _ _ from HP8.out).hit Tryz.underlying104 (zeroCon_run _) h1 (d := blockD b0) (by simp) false
      rw [Rout_inv hv9] at e9
      simp only [Bool.false_eq_true, if_false] at e9
      clear hv9
      obtain ⟨w9, hrun, hput, hgrow, hs9⟩ := (show MapIs Rin wc.drew b0 (fun _ => none) 0 from HI8.out).put Tryz.underlying149 (by omega) h2 (Rin_mk x)
      unfold regV at hrun
      have hin := (show MapIs Rin wc.drew b0 (fun _ => none) 0 from HI8.out).lt
      have hout9 : MapIs Rout w9 M (fun q => if q = x.n then some (blockD b0) else outerM l nb q) (n + 1) := (show MapIs Rout wc.drew M _ _ from HP8.out).block (hgrow.block M (show MapIs Rout wc.drew M _ _ from HP8.out).lt (fun e => by have := Option.some.inj e; omega))
      have hg9 : ∀ k, k < w.heap.size → some k ≠ some M → w9.heap[k]? = w.heap[k]? := fun k hk hne => (hgrow.block k (Nat.lt_of_lt_of_le hk HG8.out.size) (fun e => by have := Option.some.inj e; omega)).trans (HG8.out.block k hk hne)
      have HO : Hid (MapIs Rout w9 M (fun q => if q = x.n then some (blockD b0) else outerM l nb q) (n + 1)) := hout9
      have HP : Hid (MapIs Rin w9 b0 (fun q => if q = x.f then some (regD x) else none) 1) := hput
      have HR : Hid (w.grownBy w9 (some M)) := ⟨hgrow.os.trans HG8.out.os, hgrow.tape.trans HG8.out.tape, hgrow.output.trans HG8.out.output, Nat.le_trans HG8.out.size hgrow.size, hg9⟩
      clear hput hgrow hs9 hout9 hg9 HF8 HC8 HI8 HP8 HG8
      go_wp2_with fail
      go_region
      all_goals
        go_wp2_with fail
        go_end0
        exact ⟨rfl, b0, hb0w, maps2_new HM.out hS HX.out HO.out HP.out hb0w (fun k hk hne => HR.out.block k hk (fun e => hne (Option.some.inj e))), HR.out⟩
end Go.Proofs.YtdfafhclhfijnaaGreatDoor
