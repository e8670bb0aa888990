import Derived.Test.YtdfafhclhfijnaaGreatDoorU1
import Derived.Handy
import Derived.Deep.CutBlock
namespace Go.Proofs.YtdfafhclhfijnaaGreatDoor
open Go.RowKit Go.Maps Go.Shelf

theorem wst_new (W : World) : WSt W.heap.size ((W.alloc (.cells #[.slice none 0 0] 30)).alloc (.cells #[.pointer (some ⟨W.heap.size, 0, none⟩), .slice none 0 0] 33)) (W.heap.size + 1) W.heap.size 0 := by
  have h1 : (W.alloc (.cells #[.slice none 0 0] 30)).heap.size = W.heap.size + 1 := by simp
  have h2 : ((W.alloc (.cells #[.slice none 0 0] 30)).alloc (.cells #[.pointer (some ⟨W.heap.size, 0, none⟩), .slice none 0 0] 33)).heap[W.heap.size]? = some (.cells #[.slice none 0 0] 30 (0, 0)) := by
    rw [Below.heap_alloc _ _ _ (by omega)]; exact World.alloc_heap_new W _
  have h3 := World.alloc_heap_new (W.alloc (.cells #[.slice none 0 0] 30)) (.cells #[.pointer (some ⟨W.heap.size, 0, none⟩), .slice none 0 0] 33)
  rw [h1] at h3
  exact ⟨0, fun _ => newRD 0 0, fun _ => 0, 0, Nat.le_refl _, Nat.le_refl _,
    ⟨Nat.le_refl _, by simp; omega, ⟨none, 0, h2, World.ownsRow_nil _ _ _ _⟩, fun i hi => absurd hi (by omega), fun i hi => absurd hi (by omega), fun i j hi => absurd hi (by omega)⟩,
    ⟨by omega, by simp; omega, ⟨none, 0, h3, World.ownsRow_nil _ _ _ _⟩, fun i hi => absurd hi (by omega), fun i j hi => absurd hi (by omega)⟩⟩

theorem below_drewN (b : Nat) (w : World) (n : Nat) : Below b w (w.drewN n) := ⟨rfl, rfl, rfl, Nat.le_refl _, fun _ _ => rfl⟩

def in0 (k : Int) : Bool := k == 1 || k == 2 || k == 3
def inAt (k : Int) (j : Nat) : Bool := in0 k || (decide (0 < j) && k == 4) || (decide (1 < j) && k == 5)
theorem inAt_succ {k : Int} {j : Nat} (h : inAt k j = true) : inAt k (j + 1) = true := by
  simp only [inAt, Bool.or_eq_true, Bool.and_eq_true, decide_eq_true_eq] at h ⊢
  rcases h with (h | h) | h
  · exact .inl (.inl h)
  · exact .inl (.inr ⟨by omega, h.2⟩)
  · exact .inr ⟨by omega, h.2⟩
theorem inAt_two {k : Int} (h : inAt k 2 = true) : k = 1 ∨ k = 2 ∨ k = 3 ∨ k = 4 ∨ k = 5 := by
  simp [inAt, in0] at h
  omega

set_option maxRecDepth 100000 in
set_option maxHeartbeats 4000000 in
theorem plays_any (l : List OpS) (ad : Option Addr) (cap kb : Nat) (w : World) (hl : l.length ≤ maxLen) (hS : l ≠ [] → ∃ g off, ad = some ⟨g, off, none⟩ ∧ Sc w g off l) (hE : ErrT w)
    (hb : ∀ i, i < l.length → (opAt l i).s.size ≤ 140737488355328 ∧ (opAt l i).t.size ≤ 140737488355328 ∧ (opAt l i).u.size ≤ 140737488355328)
    (ha : ∀ i, i < l.length → -9223372036854775808 ≤ (opAt l i).a ∧ (opAt l i).a < 9223372036854775808)
    (k0 : w.cell? ⟨kb, 0, none⟩ = some (.int .i64 4)) (k1 : w.cell? ⟨kb, 1, none⟩ = some (.int .i64 5)) :
    Calls Tryz.prog 4 #[.slice ad l.length cap, .slice (some ⟨kb, 0, none⟩) 2 2, .bool false] w fun e w' => e = .returned (.bool true) ∧ Below w.heap.size w w' := by
  have hsm := lawSmall_any l ad cap w hl hS hb
  unfold maxLen at hl
  have lk := lt_of_cell k0
  by_cases hsz : l.length + scSum l ≤ 4096
  · rw [decide_eq_true hsz] at hsm
    go_enter Tryz.func4, Tryz.ntmps4
    go_wp2_with (go_at_call 5; refine hsm.mono ?_; clear hsm; rintro e w1 ⟨rfl, nd, rfl⟩)
    have h0 : WSt w.heap.size (((w.drewN nd).alloc (.cells #[.slice none 0 0] 30)).alloc (.cells #[.pointer (some ⟨w.heap.size, 0, none⟩), .slice none 0 0] 33)) (w.heap.size + 1) w.heap.size 0 := wst_new (w.drewN nd)
    have hb0 : Below w.heap.size w (((w.drewN nd).alloc (.cells #[.slice none 0 0] 30)).alloc (.cells #[.pointer (some ⟨w.heap.size, 0, none⟩), .slice none 0 0] 33)) := ((below_drewN _ w nd).alloc (by simp) _).alloc (by simp) _
    go_loopg [9] l.length (fun q i wr => ∃ k : Nat, q + k = l.length ∧ i = .int .i64 k ∧ WSt w.heap.size wr (w.heap.size + 1) w.heap.size k ∧ Below w.heap.size w wr)
    case atStart => exact ⟨0, rfl, rfl, h0, hb0⟩
    case round =>
      clear h0 hb0
      obtain ⟨k, hq, rfl, hW, hbw⟩ := hrel
      by_cases hlt : k < l.length
      · obtain ⟨g, off, rfl, hc⟩ := hS (by intro h; simp [h] at hlt)
        obtain ⟨c0, c1, c2, c3, c4, c5, c6⟩ := hc k hlt
        obtain ⟨a1, a2⟩ := ha k hlt
        have lg := lt_of_cell c0
        have d0 := below_keep hbw lg c0
        have d1 := below_keep hbw lg c1
        have d2 := below_keep hbw lg c2
        have d3 := below_keep hbw lg c3
        have d4 := below_keep hbw lg c4
        have d5 := below_keep hbw lg c5
        have d6 := below_keep hbw lg c6
        have e0 := below_keep hbw lk k0
        have e1 := below_keep hbw lk k1
        have hsu := scSum_succ l k hlt
        have hsl := scSum_le l (k + 1)
        have HH : Hid (_ ∧ _ ∧ _ ∧ _ ∧ _) := ⟨hW, hbw, hsu, hsl, errT_below hE hbw⟩
        clear hS hb ha hc hW hbw hsu hsl c0 c1 c2 c3 c4 c5 c6 k0 k1 hE
        go_upto_region 9 with fail
        go_cut [11] (fun v wd => v = .bool (in0 (opAt l k).kind) ∧ wd = wr)
        case first =>
          clear HH
          have hnil : Sem.run Tryz.prog (binOp .eql 24 (.slice (some ⟨kb, 0, none⟩) 2 2) (.slice none 0 0)) wr = .ok (.bool false) wr := by rfl
          by_cases h1 : (opAt l k).kind = 1
          · have f1 : ((opAt l k).kind == 1) = true := by simp [h1]
            go_wp2
            go_meet
            case rel => exact ⟨by simp [in0, f1], rfl⟩
          · have f1 : ((opAt l k).kind == 1) = false := by simp [h1]
            by_cases h2 : (opAt l k).kind = 2
            · have f2 : ((opAt l k).kind == 2) = true := by simp [h2]
              go_wp2
              go_meet
              case rel => exact ⟨by simp [in0, f1, f2], rfl⟩
            · have f2 : ((opAt l k).kind == 2) = false := by simp [h2]
              go_wp2
              go_meet
              case rel => exact ⟨by simp [in0, f1, f2], rfl⟩
        case rest =>
          obtain ⟨rfl, hwc⟩ := hcut
          obtain ⟨wo, ewo⟩ : ∃ wo : World, wo = wr := ⟨_, rfl⟩
          obtain ⟨go, ego⟩ : ∃ go : Nat, go = gk := ⟨_, rfl⟩
          subst hwc
          subst ewo
          subst ego
          obtain ⟨kd, hkd⟩ : ∃ kd, (opAt l k).kind = kd := ⟨_, rfl⟩
          rw [hkd] at d0 ⊢
          go_wp2
          go_loopg [11, 12] 2 (fun q v j wx => ∃ jj : Nat, q + jj = 2 ∧ j = .int .i64 jj ∧ v = .bool (inAt kd jj) ∧ wx = wo)
          case atStart => exact ⟨0, rfl, rfl, by simp [inAt], rfl⟩
          case round =>
            obtain ⟨jj, hjj, rfl, rfl, rfl⟩ := hrel
            by_cases hj : jj < 2
            · clear HH
              cases hin : inAt kd jj
              · have hj2 : jj = 0 ∨ jj = 1 := by omega
                rcases hj2 with rfl | rfl
                · go_wp2
                  go_roundg 1
                  case rel => exact ⟨1, rfl, rfl, by simp [inAt] at hin ⊢; simp [hin], rfl⟩
                  case measure => omega
                · go_wp2
                  go_roundg 0
                  case rel => exact ⟨2, rfl, rfl, by simp [inAt] at hin ⊢; simp [hin], rfl⟩
                  case measure => omega
              · go_wp2
                go_roundg (gk - 1)
                case rel => exact ⟨jj + 1, by omega, by go_num, by rw [inAt_succ hin], rfl⟩
                case measure => omega
            · have e2 : jj = 2 := by omega
              subst e2
              cases hin : inAt kd 2
              · have HB : Hid (WSt w.heap.size wr (w.heap.size + 1) w.heap.size k ∧ Below w.heap.size w wr) := ⟨HH.out.1, HH.out.2.1⟩
                clear HH
                go_wp2
                go_roundg (go - 1)
                case rel => exact ⟨k + 1, by omega, by go_num, HB.out.1.mono (Nat.le_succ _), HB.out.2⟩
                case measure => omega
              · obtain ⟨hW, hbw, hsu, hsl, hEr⟩ := HH.out
                have hst := step_any w.heap.size (w.heap.size + 1) w.heap.size k (opAt l k) wr hEr hW (by omega) (hkd ▸ inAt_two hin) (by unfold opSize at hsu; omega) (by unfold opSize at hsu; omega) (by unfold opSize at hsu; omega) a1 a2
                unfold OpS.value at hst
                rw [hkd] at hst
                have HB : Hid (Below w.heap.size w wr) := hbw
                clear HH hW hbw hsu hsl hEr
                go_wp2_with (go_at_call 6; refine hst.mono ?_; clear hst; rintro e w5 ⟨rfl, hW5, hb5⟩)
                go_roundg (go - 1)
                case rel => exact ⟨k + 1, by omega, by go_num, hW5, HB.out.trans hb5⟩
                case measure => omega
      · have hk : k = l.length := by omega
        obtain ⟨N, rs, os, n, _, _, hP9, hL9⟩ := hW.ex
        obtain ⟨la, lc, x1, x2⟩ := hL9.law
        have x3 : wr.cell? ⟨w.heap.size + 1, 1, none⟩ = some (.slice la N lc) := by simp [World.cell?, x1]
        clear hP9 hL9 x1 x2 hW
        go_wp2
        obtain ⟨wo, ewo⟩ : ∃ wo : World, wo = wr := ⟨_, rfl⟩
        subst ewo
        go_loopg [14] 0 (fun q i wx => i = .int .i64 0 ∧ wx = wo)
        case atStart => exact ⟨rfl, rfl⟩
        case round =>
          obtain ⟨rfl, rfl⟩ := hrel
          go_wp2
          all_goals go_ret
          all_goals exact ⟨rfl, hbw⟩
  · rw [decide_eq_false hsz] at hsm
    go_enter Tryz.func4, Tryz.ntmps4
    go_wp2_with (go_at_call 5; refine hsm.mono ?_; clear hsm; rintro e w1 ⟨rfl, nd, rfl⟩)
    go_ret
    exact ⟨rfl, below_drewN _ w _⟩
end Go.Proofs.YtdfafhclhfijnaaGreatDoor

namespace Go.Proofs.YtdfafhclhfijnaaGreatDoor
open Go.RowKit Go.Maps Go.Shelf

theorem Sc.below {w w' : World} {g off : Nat} {l : List OpS} (h : Sc w g off l) (hb : Below w.heap.size w w') : Sc w' g off l := by
  intro i hi
  obtain ⟨c0, c1, c2, c3, c4, c5, c6⟩ := h i hi
  have lg := lt_of_cell c0
  exact ⟨below_keep hb lg c0, below_keep hb lg c1, below_keep hb lg c2, below_keep hb lg c3, below_keep hb lg c4, below_keep hb lg c5, below_keep hb lg c6⟩

theorem two_cells {W : World} {b : Nat} {x y : Value} {t : TypeId} {f : Nat × Nat} (h : W.heap[b]? = some (.cells #[x, y] t f)) : W.cell? ⟨b, 0, none⟩ = some x ∧ W.cell? ⟨b, 1, none⟩ = some y := by
  constructor <;> simp [World.cell?, h]

set_option maxRecDepth 100000 in
set_option maxHeartbeats 4000000 in
theorem edits_any (l : List OpS) (ad : Option Addr) (cap : Nat) (w : World) (hl : l.length ≤ maxLen) (hS : l ≠ [] → ∃ g off, ad = some ⟨g, off, none⟩ ∧ Sc w g off l) (hE : ErrT w)
    (hb : ∀ i, i < l.length → (opAt l i).s.size ≤ 140737488355328 ∧ (opAt l i).t.size ≤ 140737488355328 ∧ (opAt l i).u.size ≤ 140737488355328)
    (ha : ∀ i, i < l.length → -9223372036854775808 ≤ (opAt l i).a ∧ (opAt l i).a < 9223372036854775808) :
    Calls Tryz.prog 3 #[.slice ad l.length cap] w fun e w' => e = .returned (.bool true) ∧ Below w.heap.size w w' := by
  have HP : Hid (∀ W kb, Below w.heap.size w W → W.cell? ⟨kb, 0, none⟩ = some (.int .i64 4) → W.cell? ⟨kb, 1, none⟩ = some (.int .i64 5) →
      Calls Tryz.prog 4 #[.slice ad l.length cap, .slice (some ⟨kb, 0, none⟩) 2 2, .bool false] W fun e w' => e = .returned (.bool true) ∧ Below W.heap.size W w') := fun W kb hbW h0 h1 =>
    plays_any l ad cap kb W hl (fun hn => by obtain ⟨g, off, e, h⟩ := hS hn; exact ⟨g, off, e, h.below hbW⟩) (errT_below hE hbW) hb ha h0 h1
  clear hS hE hb ha hl
  go_enter Tryz.func3, Tryz.ntmps3
  go_wp2_with fail
  have hn := World.alloc_heap_new w (.cells #[.int .i64 4, .int .i64 5] 3)
  refine (HP.out (w.alloc (.cells #[.int .i64 4, .int .i64 5] 3)) w.heap.size ((Below.refl _ _).alloc (Nat.le_refl _) _) (two_cells hn).1 (two_cells hn).2).mono ?_
  clear HP hn
  rintro e w5 ⟨rfl, hb5⟩
  go_wp2
  go_ret
  exact ⟨rfl, ((Below.refl _ _).alloc (Nat.le_refl _) _).trans (hb5.mono (by simp))⟩
end Go.Proofs.YtdfafhclhfijnaaGreatDoor
