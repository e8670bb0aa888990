import Derived.Test.YtjhlijobdihplaaGreatDoorM04
namespace Go.Proofs.YtjhlijobdihplaaGreatDoor
open Go.RowKit Go.Maps

theorem hasN_withR {l : List Reg} {x : Reg} (hs : SortedB l) (s : ByteArray) : hasN (withR l x) s = (hasN l s || decide (x.n = s)) := by
  rw [Bool.eq_iff_iff, Bool.or_eq_true, decide_eq_true_eq, hasN_iff, hasN_iff]
  constructor
  · rintro ⟨y, hy, rfl⟩
    rcases withR_mem hy with rfl | hy
    · exact .inr rfl
    · exact .inl ⟨y, hy, rfl⟩
  · rintro (⟨y, hy, rfl⟩ | rfl)
    · have h1 := getR_withR x y.n y.f l hs
      rw [getR_of_mem hs hy] at h1
      split at h1
      · rename_i hx
        obtain ⟨h2, h3, _⟩ := getR_mem h1
        exact ⟨_, h2, h3⟩
      · obtain ⟨h2, h3, _⟩ := getR_mem h1
        exact ⟨_, h2, h3⟩
    · have h1 := getR_withR x x.n x.f l hs
      rw [if_pos ⟨rfl, rfl⟩] at h1
      obtain ⟨h2, h3, _⟩ := getR_mem h1
      exact ⟨_, h2, h3⟩

theorem innerM_with {l : List Reg} {x : Reg} (hs : SortedB l) (hwin : ∀ y, getR l x.n x.f = some y → winsB x y = true) (s f : ByteArray) :
    innerM (withR l x) s f = if s = x.n ∧ f = x.f then some (regD x) else innerM l s f := by
  unfold innerM
  rw [getR_withR x s f l hs]
  by_cases h : x.n = s ∧ x.f = f
  · rw [if_pos h, if_pos ⟨h.1.symm, h.2.symm⟩]
    obtain ⟨rfl, rfl⟩ := h
    cases hg : getR l x.n x.f with
    | none => simp [putR]
    | some y => simp [putR, hwin y hg]
  · rw [if_neg h, if_neg (fun e => h ⟨e.1.symm, e.2.symm⟩)]

theorem maps2_in {w w' : World} {M n : Nat} {nb : ByteArray → Nat} {l : List Reg} {x : Reg} (h : Maps2 w M nb l n) (hs : SortedB l) (hx : hasN l x.n = true) (hwin : ∀ y, getR l x.n x.f = some y → winsB x y = true)
    (hp : MapIs Rin w' (nb x.n) (fun q => if q = x.f then some (regD x) else innerM l x.n q) (n + 1)) (hg : w.grownBy w' (some (nb x.n))) : Maps2 w' M nb (withR l x) (n + 1) := by
  have hN : ∀ s, hasN (withR l x) s = hasN l s := by
    intro s
    rw [hasN_withR hs]
    by_cases e : x.n = s
    · rw [← e, hx]; rfl
    · simp [e]
  refine ⟨?_, fun s hh => ?_, fun s t h1 h2 => h.2.2 s t (by rw [← hN]; exact h1) (by rw [← hN]; exact h2)⟩
  · have hM := h.1.lt
    refine ((h.1.block (hg.block M hM (fun e => (h.2.1 x.n hx).2 (Option.some.inj e).symm))).mono (Nat.le_succ _)).congr (fun s => ?_)
    simp [outerM, hN]
  · rw [hN] at hh
    refine ⟨?_, (h.2.1 s hh).2⟩
    by_cases e : s = x.n
    · subst e
      refine hp.congr (fun q => ?_)
      rw [innerM_with hs hwin]
      by_cases e2 : q = x.f <;> simp [e2]
    · have hi := (h.2.1 s hh).1
      refine ((hi.block (hg.block (nb s) hi.lt (fun e3 => e (h.2.2 _ _ hh hx (Option.some.inj e3))))).mono (Nat.le_succ _)).congr (fun q => ?_)
      rw [innerM_with hs hwin, if_neg (fun e2 => e e2.1)]

theorem maps2_new {w w' : World} {M n b : Nat} {nb : ByteArray → Nat} {l : List Reg} {x : Reg} (h : Maps2 w M nb l n) (hs : SortedB l) (hx : hasN l x.n = false)
    (ho : MapIs Rout w' M (fun q => if q = x.n then some (blockD b) else outerM l nb q) (n + 1)) (hp : MapIs Rin w' b (fun q => if q = x.f then some (regD x) else none) 1)
    (hb : w.heap.size ≤ b) (hg : ∀ k, k < w.heap.size → k ≠ M → w'.heap[k]? = w.heap[k]?) : Maps2 w' M (fun s => if s = x.n then b else nb s) (withR l x) (n + 1) := by
  have hM := h.1.lt
  have hN : ∀ s, s ≠ x.n → hasN (withR l x) s = hasN l s := by
    intro s e
    rw [hasN_withR hs]
    simp [Ne.symm e]
  have hwin : ∀ y, getR l x.n x.f = some y → winsB x y = true := by
    intro y hy; rw [getR_noName hx] at hy; cases hy
  refine ⟨?_, fun s hh => ?_, fun s t h1 h2 he => ?_⟩
  · refine ho.congr (fun s => ?_)
    by_cases e : s = x.n
    · have : hasN (withR l x) s = true := by rw [hasN_withR hs, e]; simp
      simp [outerM, e ▸ this, e]
    · simp [outerM, hN s e, e]
  · by_cases e : s = x.n
    · simp only [e, if_true]
      refine ⟨(hp.mono (by omega)).congr (fun q => ?_), by omega⟩
      rw [innerM_with hs hwin]
      by_cases e2 : q = x.f
      · simp [e2]
      · simp [e2, innerM, getR_noName hx]
    · rw [hN s e] at hh
      simp only [e, if_false]
      have hi := (h.2.1 s hh).1
      refine ⟨((hi.block (hg _ hi.lt (h.2.1 s hh).2)).mono (Nat.le_succ _)).congr (fun q => ?_), (h.2.1 s hh).2⟩
      rw [innerM_with hs hwin, if_neg (fun e2 => e e2.1)]
  · by_cases e1 : s = x.n
    · by_cases e2 : t = x.n
      · rw [e1, e2]
      · simp only [e1, e2, if_true, if_false] at he
        rw [hN t e2] at h2
        have := (h.2.1 t h2).1.lt
        omega
    · by_cases e2 : t = x.n
      · simp only [e1, e2, if_true, if_false] at he
        rw [hN s e1] at h1
        have := (h.2.1 s h1).1.lt
        omega
      · simp only [e1, e2, if_false] at he
        exact h.2.2 s t (by rw [← hN s e1]; exact h1) (by rw [← hN t e2]; exact h2) he

/-- a winner is not the register that it wins over -/
theorem wins_ne {x y : Reg} (h : winsB x y = true) : (x.c == y.c && (x.r == y.r && (x.v.toList == y.v.toList))) = false := by
  rcases wins_cases h with hl | ⟨_, _, _, hv⟩
  · cases e : (x.c == y.c && (x.r == y.r && (x.v.toList == y.v.toList)))
    · rfl
    · simp only [Bool.and_eq_true, beq_iff_eq] at e
      simp [laterB, e.1, e.2.1] at hl
  · cases e : (x.v.toList == y.v.toList)
    · simp
    · rw [show eqS x.v y.v = true from e] at hv
      simp at hv

/-- five cells that hold a register -/
def five (w : World) (b : Nat) (x : Reg) : Prop := w.cell? ⟨b, 0, none⟩ = some (.string x.n) ∧ w.cell? ⟨b, 1, none⟩ = some (.string x.f) ∧ w.cell? ⟨b, 2, none⟩ = some (.int .i64 x.c) ∧ w.cell? ⟨b, 3, none⟩ = some (.int .i64 x.r) ∧ w.cell? ⟨b, 4, none⟩ = some (.string x.v)
theorem five_below {w w' : World} {b B : Nat} {x : Reg} (h : five w b x) (hb : Below B w w') (hlt : b < B) : five w' b x := by
  obtain ⟨h0, h1, h2, h3, h4⟩ := h
  exact ⟨(hb.cell (p := ⟨b, 0, none⟩) hlt).trans h0, (hb.cell (p := ⟨b, 1, none⟩) hlt).trans h1, (hb.cell (p := ⟨b, 2, none⟩) hlt).trans h2, (hb.cell (p := ⟨b, 3, none⟩) hlt).trans h3, (hb.cell (p := ⟨b, 4, none⟩) hlt).trans h4⟩
theorem below_drew' {B : Nat} (w : World) : Below B w w.drew := (Below.refl B w).drew

set_option maxRecDepth 100000 in
set_option maxHeartbeats 2000000 in
theorem take_in (p o M n : Nat) (nb : ByteArray → Nat) (l : List Reg) (x : Reg) (w : World) (hc : w.cell? ⟨p, o, none⟩ = some (.map (some M))) (hM : Maps2 w M nb l n) (hS : SortedB l) (hn : n < 100000)
    (hx : hasN l x.n = true) (hwin : ∀ y, getR l x.n x.f = some y → winsB x y = true) (h1 : x.n.size ≤ maxLen) (h2 : x.f.size ≤ maxLen) :
    Calls Tryz.prog 59 #[.pointer (some ⟨p, o, none⟩), .agg #[.string x.n, .string x.f, .int .i64 x.c, .int .i64 x.r, .string x.v]] w
      fun e w' => e = .returned (.tuple #[]) ∧ Maps2 w' M nb (withL l x) (n + 1) ∧ w.grownBy w' (some (nb x.n)) := by
  have hpl : p < w.heap.size := by
    rcases Nat.lt_or_ge p w.heap.size with h | h
    · exact h
    · simp [World.cell?, Array.getElem?_eq_none h] at hc
  rw [withL_eq l x hS]
  have hB : ∀ w', Below w.heap.size w w' → BookAt w' (.map (some M)) M nb l n := fun w' hb => (show BookAt w (.map (some M)) M nb l n from .inr ⟨rfl, hM⟩).below hb
  have hcv : conV l nb x.n = .map (some (nb x.n)) := by simp [conV, hx]
  have L1 : ∀ w', Below w.heap.size w w' → (Instr.lookup 104 (.map (some M)) (.string x.n) false).run Tryz.prog w' = .ok (.map (some (nb x.n))) w' := by
    intro w' hb
    rw [(hB w' hb).contact h1, hx]; rfl
  have L2 : ∀ w', Below w.heap.size w w' → (Instr.lookup 150 (.map (some (nb x.n))) (.string x.f) true).run Tryz.prog w' = .ok (.tuple #[match getR l x.n x.f with | some y => regV y | none => .agg #[.string ⟨#[]⟩, .string ⟨#[]⟩, .int .i64 0, .int .i64 0, .string ⟨#[]⟩], .bool (getR l x.n x.f).isSome]) w' := by
    intro w' hb
    have := (hB w' hb).reg (s := x.n) h2
    rw [hcv] at this
    exact this
  have hE1 := fun w r => run_eql_map_nil (P := Tryz.prog) w 104 _ _ r Tryz.underlying104
  have hE2 := fun w r => run_eql_map_nil (P := Tryz.prog) w 150 _ _ r Tryz.underlying150
  have hW0 : Below w.heap.size w (w.alloc (.cells #[.string x.n, .string x.f, .int .i64 x.c, .int .i64 x.r, .string x.v] 99)) := (Below.refl _ _).alloc (Nat.le_refl _) _
  have hW1 : Below w.heap.size w ((w.alloc (.cells #[.string x.n, .string x.f, .int .i64 x.c, .int .i64 x.r, .string x.v] 99)).alloc (.cells #[.string ⟨#[]⟩, .string ⟨#[]⟩, .int .i64 0, .int .i64 0, .string ⟨#[]⟩] 99)) := hW0.alloc (by simp) _
  cases hg : getR l x.n x.f with
  | none =>
    go_enter Tryz.func59, Tryz.ntmps59
    go_upto_region 1 with fail
    go_cut [4, 5] (fun s4 s5 wd => s4 = .pointer (some ⟨w.heap.size + 1, 0, none⟩) ∧ s5 = .bool false ∧ five wd w.heap.size x ∧ Below w.heap.size w wd ∧ w.heap.size < wd.heap.size)
    case first =>
      have a1 := L1 _ hW0.drew
      have a2 := L1 _ hW1.drew
      have b1 := L2 _ hW0.drew
      have b2 := L2 _ hW1.drew
      rw [hg] at b1 b2
      simp only [Option.isSome_none] at b1 b2
      have HW : Hid (Below w.heap.size w ((w.alloc (.cells #[.string x.n, .string x.f, .int .i64 x.c, .int .i64 x.r, .string x.v] 99)).alloc (.cells #[.string ⟨#[]⟩, .string ⟨#[]⟩, .int .i64 0, .int .i64 0, .string ⟨#[]⟩] 99))) := hW1
      clear hM hB L1 L2 hW0 hW1 hg hwin hS hE1 hE2 hcv
      go_region
      all_goals
        clear a1 a2 b1 b2
        go_wp2_with fail
        go_meet
        case rel => exact ⟨rfl, rfl, ⟨by simp, by simp, by simp, by simp, by simp⟩, HW.out.drew, by simp; omega⟩
    case rest =>
      obtain ⟨rfl, rfl, hfx, hbw, hsz⟩ := hcut
      clear hW0 hW1
      have hcp : wc.cell? ⟨p, o, none⟩ = some (.map (some M)) := (hbw.cell (p := ⟨p, o, none⟩) hpl).trans hc
      have l1 := fun n => L1 (wc.drewN n) (below_drewN hbw n)
      have HL1 : Hid (∀ w', Below w.heap.size w w' → (Instr.lookup 104 (.map (some M)) (.string x.n) false).run Tryz.prog w' = .ok (.map (some (nb x.n))) w') := L1
      have HM : Hid (Maps2 w M nb l n) := hM
      have HW : Hid (∀ y, getR l x.n x.f = some y → winsB x y = true) := hwin
      have HG : Hid (hasN l x.n = true) := hx
      have hnbl : nb x.n < w.heap.size := (hM.2.1 x.n hx).1.lt
      obtain ⟨x0, x1, x2, x3, x4⟩ := hfx
      clear L1 L2 hB hM hwin hx hcv hg hc
      go_wp2_with fail
      go_quiet (fail)
      generalize nq = nq1
      go_wp2_with fail
      go_quiet (fail)
      have e1 := HL1.out (wc.drewN (nq1 + nq + 1)) (below_drewN hbw _)
      have hMd : MapIs Rin (wc.drewN (nq1 + nq + 1)) (nb x.n) (innerM l x.n) n := (HM.out.2.1 x.n HG.out).1.block (by exact hbw.block _ hnbl)
      obtain ⟨w9, hrun, hput, hgrow, hs9⟩ := hMd.put Tryz.underlying150 (by omega) h2 (Rin_mk x)
      unfold regV at hrun
      have HP : Hid (MapIs Rin w9 (nb x.n) (fun q => if q = x.f then some (regD x) else innerM l x.n q) (n + 1)) := hput
      have HR : Hid ((wc.drewN (nq1 + nq + 1)).grownBy w9 (some (nb x.n))) := hgrow
      clear hMd hput hgrow hs9 l1
      go_wp2_with fail
      go_region
      all_goals
        go_wp2_with fail
        go_end0
        have hgw : w.grownBy w9 (some (nb x.n)) := ⟨HR.out.os.trans hbw.os, HR.out.tape.trans hbw.tape, HR.out.output.trans hbw.output, Nat.le_trans hbw.size HR.out.size, fun k hk hne => (HR.out.block k (Nat.lt_of_lt_of_le hk hbw.size) hne).trans (hbw.block k hk)⟩
        exact ⟨rfl, maps2_in HM.out hS HG.out HW.out HP.out hgw, hgw⟩
  | some y =>
    have hwy := hwin y hg
    have hW2 : ∀ v0 v1 v2 v3 v4, Below w.heap.size w ((w.alloc (.cells #[.string x.n, .string x.f, .int .i64 x.c, .int .i64 x.r, .string x.v] 99)).alloc (.cells #[v0, v1, v2, v3, v4] 99)) := fun _ _ _ _ _ => hW0.alloc (by simp) _
    go_enter Tryz.func59, Tryz.ntmps59
    go_upto_region 1 with fail
    go_cut [4, 5] (fun s4 s5 wd => s4 = .pointer (some ⟨w.heap.size + 1, 0, none⟩) ∧ s5 = .bool true ∧ five wd w.heap.size x ∧ five wd (w.heap.size + 1) y ∧ Below w.heap.size w wd ∧ w.heap.size + 1 < wd.heap.size)
    case first =>
      have a1 := L1 _ hW0.drew
      have a2 := L1 _ hW1.drew
      have b1 := L2 _ hW0.drew
      have b2 := L2 _ hW1.drew
      rw [hg] at b1 b2
      simp only [Option.isSome_some] at b1 b2
      unfold regV at b1 b2
      have HW : Hid (∀ v0 v1 v2 v3 v4, Below w.heap.size w ((w.alloc (.cells #[.string x.n, .string x.f, .int .i64 x.c, .int .i64 x.r, .string x.v] 99)).alloc (.cells #[v0, v1, v2, v3, v4] 99))) := hW2
      clear hM hB L1 L2 hW0 hW1 hW2 hg hwin hS hE1 hE2 hcv
      go_region
      all_goals
        clear a1 a2 b1 b2
        go_wp2_with fail
        go_meet
        case rel => exact ⟨rfl, rfl, ⟨by simp, by simp, by simp, by simp, by simp⟩, ⟨by simp, by simp, by simp, by simp, by simp⟩, (HW.out _ _ _ _ _).drew, by simp⟩
    case rest =>
      obtain ⟨rfl, rfl, hfx, hfy, hbw, hsz⟩ := hcut
      clear hW0 hW1 hW2
      have hWi := fun w' => winner_wins x y w' hwy
      have q5 := fun w' => regEql_no x y w' (wins_ne hwy)
      go_upto_region 2 with fail
      go_cut [26] (fun s26 wd => s26 = .bool false ∧ five wd w.heap.size x ∧ Below w.heap.size w wd ∧ w.heap.size < wd.heap.size)
      case first =>
        have H5 : Hid (five wc (w.heap.size + 1) y) := hfy
        have H6 : Hid (five wc w.heap.size x) := hfx
        have H7 : Hid (Below w.heap.size w wc) := hbw
        obtain ⟨x0, x1, x2, x3, x4⟩ := hfx
        obtain ⟨y0, y1, y2, y3, y4⟩ := hfy
        clear L1 L2 hB hM hwin hx hcv hg hbw hE1 hE2
        go_region_with (go_at_call 81; refine (hWi _).mono ?_; rintro e w7 ⟨rfl, hb7⟩; obtain ⟨z0, z1, z2, z3, z4⟩ := five_below (w := wc.drew) (by exact H5.out) hb7 (by exact hsz))
        all_goals
          clear x0 x1 x2 x3 x4 y0 y1 y2 y3 y4 z0 z1 z2 z3 z4 q5 hWi
          go_wp2_with fail
          go_meet
          case rel => exact ⟨rfl, five_below (w := wc.drew) (by exact H6.out) hb7 (by show w.heap.size < wc.heap.size; omega), H7.out.drew.trans (hb7.mono (by show w.heap.size ≤ wc.heap.size; omega)), by have := hb7.size; show w.heap.size < w7.heap.size; exact Nat.lt_of_lt_of_le (by show w.heap.size < wc.heap.size; omega) this⟩
      case rest =>
        clear hfx hfy hbw hsz
        obtain ⟨rfl, hfx, hbw, hsz⟩ := hcut
        have hcp : wc.cell? ⟨p, o, none⟩ = some (.map (some M)) := (hbw.cell (p := ⟨p, o, none⟩) hpl).trans hc
        have l1 := fun n => L1 (wc.drewN n) (below_drewN hbw n)
        have HL1 : Hid (∀ w', Below w.heap.size w w' → (Instr.lookup 104 (.map (some M)) (.string x.n) false).run Tryz.prog w' = .ok (.map (some (nb x.n))) w') := L1
        have HM : Hid (Maps2 w M nb l n) := hM
        have HW : Hid (∀ y, getR l x.n x.f = some y → winsB x y = true) := hwin
        have HG : Hid (hasN l x.n = true) := hx
        have hnbl : nb x.n < w.heap.size := (hM.2.1 x.n hx).1.lt
        obtain ⟨x0, x1, x2, x3, x4⟩ := hfx
        clear L1 L2 hB hM hwin hx hcv hg hc hwy hWi q5
        go_wp2_with fail
        go_quiet (fail)
        have e1 := HL1.out (wc.drewN (nq + 1)) (below_drewN hbw _)
        have hMd : MapIs Rin (wc.drewN (nq + 1)) (nb x.n) (innerM l x.n) n := (HM.out.2.1 x.n HG.out).1.block (by exact hbw.block _ hnbl)
        obtain ⟨w9, hrun, hput, hgrow, hs9⟩ := hMd.put Tryz.underlying150 (by omega) h2 (Rin_mk x)
        unfold regV at hrun
        have HP : Hid (MapIs Rin w9 (nb x.n) (fun q => if q = x.f then some (regD x) else innerM l x.n q) (n + 1)) := hput
        have HR : Hid ((wc.drewN (nq + 1)).grownBy w9 (some (nb x.n))) := hgrow
        clear hMd hput hgrow hs9 l1
        go_wp2_with fail
        go_region
        all_goals
          go_wp2_with fail
          go_end0
          have hgw : w.grownBy w9 (some (nb x.n)) := ⟨HR.out.os.trans hbw.os, HR.out.tape.trans hbw.tape, HR.out.output.trans hbw.output, Nat.le_trans hbw.size HR.out.size, fun k hk hne => (HR.out.block k (Nat.lt_of_lt_of_le hk hbw.size) hne).trans (hbw.block k hk)⟩
          exact ⟨rfl, maps2_in HM.out hS HG.out HW.out HP.out hgw, hgw⟩
end Go.Proofs.YtjhlijobdihplaaGreatDoor
