import Derived.Test.YtjhlijobdihplaaGreatDoorM16
import Derived.Test.YtjhlijobdihplaaGreatDoorM11
namespace Go.Proofs.YtjhlijobdihplaaGreatDoor
open Go.RowKit

theorem decL_size (n : Int) : (decL n).size ≤ 21 := by
  have h1 := decB_size 19 9223372036854775808
  have h2 := decB_size 19 (-n)
  have h3 := decB_size 19 n
  have h4 : minusB.size = 1 := rfl
  unfold decL
  split
  · split
    · rw [app_size]; omega
    · rw [app_size]; omega
  · omega

def keyB (y : Reg) : ByteArray := y.n ++ ⟨#[46]⟩ ++ y.f ++ ⟨#[0]⟩
def lineB (s : ByteArray) (y : Reg) : ByteArray := s ++ y.n ++ ⟨#[46]⟩ ++ y.f ++ ⟨#[32]⟩ ++ decL y.c ++ ⟨#[32]⟩ ++ decL y.r ++ ⟨#[32]⟩ ++ decL (y.v.size : Int) ++ ⟨#[32]⟩ ++ y.v ++ ⟨#[10]⟩
def linesStep (pre : ByteArray) (s : ByteArray) (y : Reg) : ByteArray := if beginsB (keyB y) pre then lineB s y else s
def linesL (l : List Reg) (pre : ByteArray) : ByteArray := l.foldl (linesStep pre) ⟨#[]⟩
theorem linesL_succ (l : List Reg) (pre : ByteArray) (k : Nat) (h : k < l.length) : linesL (l.take (k + 1)) pre = linesStep pre (linesL (l.take k) pre) (reg l k) := by
  rw [take_reg l k h]; unfold linesL; rw [List.foldl_append]; rfl

theorem step_size (pre s : ByteArray) (y : Reg) (h : y.n.size ≤ 5000 ∧ y.f.size ≤ 5000 ∧ y.v.size ≤ 5000) : (linesStep pre s y).size ≤ s.size + 16000 := by
  unfold linesStep lineB
  have z1 := decL_size y.c
  have z2 := decL_size y.r
  have z3 := decL_size (y.v.size : Int)
  have e1 : (ByteArray.mk #[46]).size = 1 := rfl
  have e3 : (ByteArray.mk #[32]).size = 1 := rfl
  have e4 : (ByteArray.mk #[10]).size = 1 := rfl
  split
  · simp only [app_size, e1, e3, e4]
    omega
  · omega
theorem linesTo_size (pre : ByteArray) : ∀ (m : List Reg) (s : ByteArray), (∀ y ∈ m, y.n.size ≤ 5000 ∧ y.f.size ≤ 5000 ∧ y.v.size ≤ 5000) → (m.foldl (linesStep pre) s).size ≤ s.size + m.length * 16000
  | [], s, _ => by simp
  | y :: r, s, h => by
    have h1 := linesTo_size pre r (linesStep pre s y) (fun z hz => h z (List.mem_cons_of_mem _ hz))
    have h2 := step_size pre s y (h y List.mem_cons_self)
    simp only [List.foldl_cons, List.length_cons]
    omega
theorem linesL_size (l : List Reg) (pre : ByteArray) (h : ∀ i, i < l.length → (reg l i).n.size ≤ 5000 ∧ (reg l i).f.size ≤ 5000 ∧ (reg l i).v.size ≤ 5000) : (linesL l pre).size ≤ l.length * 16000 := by
  have h1 := linesTo_size pre l ⟨#[]⟩ (fun y hy => by
    obtain ⟨i, hi, rfl⟩ := List.getElem_of_mem hy
    have := h i hi
    simpa [reg, List.getD, hi] using this)
  have e : (ByteArray.mk #[]).size = 0 := rfl
  unfold linesL
  omega

set_option maxRecDepth 100000 in
set_option maxHeartbeats 2000000 in
theorem lines_any (l : List Reg) (pre : ByteArray) (a : Option Addr) (cap : Nat) (w : World) (hB : Bk 57 w (.slice a l.length cap) l) (hl : l.length ≤ 9000) (hp : pre.size ≤ maxLen)
    (hN : ∀ i, i < l.length → (reg l i).n.size ≤ 5000 ∧ (reg l i).f.size ≤ 5000 ∧ (reg l i).v.size ≤ 5000)
    (hR : ∀ i, i < l.length → -9223372036854775808 ≤ (reg l i).c ∧ (reg l i).c < 9223372036854775808 ∧ -9223372036854775808 ≤ (reg l i).r ∧ (reg l i).r < 9223372036854775808) :
    Calls Tryz.prog 26 #[.slice a l.length cap, .string pre] w fun e w' => e = .returned (.string (linesL l pre)) ∧ Below w.heap.size w w' := by
  go_enter Tryz.func26, Tryz.ntmps26
  go_wp2_with fail
  go_loopg [5, 6] l.length (fun q s i wr => ∃ k : Nat, q + k = l.length ∧ i = .int .i64 k ∧ s = .string (linesL (l.take k) pre) ∧ (linesL (l.take k) pre).size ≤ k * 16000 ∧ Below w.heap.size w wr)
  case atStart => exact ⟨0, by omega, rfl, rfl, by simp [linesL]; rfl, Below.refl _ _⟩
  case round =>
    obtain ⟨k, hq, rfl, rfl, hsz, hb⟩ := hrel
    by_cases hlt : k < l.length
    · obtain ⟨g, rfl⟩ := hB.shape.2 (by intro h; simp [h] at hlt)
      have HS : Hid (linesL (l.take (k + 1)) pre = linesStep pre (linesL (l.take k) pre) (reg l k)) := linesL_succ l pre k hlt
      generalize linesL (l.take k) pre = s at *
      obtain ⟨c0, c1, c2, c3, c4⟩ := (hB.below (Nat.le_refl _) hb).five k hlt
      obtain ⟨n1, n2, n3⟩ := hN k hlt
      obtain ⟨r1, r2, r3, r4⟩ := hR k hlt
      clear hN hR
      generalize reg l k = y at *
      have happ := app_size
      have hbeg := fun W => begins_any (keyB y) pre W (by unfold maxLen keyB; rw [app_size, app_size, app_size]; show _ + 1 + _ + 1 ≤ _; omega) hp
      have e1 : (ByteArray.mk #[46]).size = 1 := rfl
      have e2 : (ByteArray.mk #[0]).size = 1 := rfl
      have e3 : (ByteArray.mk #[32]).size = 1 := rfl
      have e4 : (ByteArray.mk #[10]).size = 1 := rfl
      unfold keyB at hbeg
      go_wp2
      go_cut [7] (fun v wd => v = .bool (beginsB (keyB y) pre) ∧ wd = wr.drew)
      case first => --F
        clear hB HS
        go_region_with (go_at_call 48; refine (hbeg _).mono ?_; rintro e w' ⟨rfl, rfl⟩)
        all_goals go_wp2
        all_goals go_meet
        all_goals case rel => exact ⟨rfl, rfl⟩
      case rest =>
        obtain ⟨rfl, rfl⟩ := hcut
        have lg := lt_of_cell c0
        have hdc := decimal_any y.c wr.drew r1 r2
        clear hbeg
        cases hbg : beginsB (keyB y) pre
        · go_wp2_with fail
          go_roundg (gk - 1)
          case rel => exact ⟨k + 1, by omega, by go_num, by rw [HS.out]; simp [linesStep, hbg], by rw [HS.out]; simp [linesStep, hbg]; omega, hb.drew⟩
          case measure => omega
        · go_wp2_with fail
          refine hdc.mono ?_
          clear hdc
          rintro e w1 ⟨rfl, hb1⟩
          have hbb : Below wr.heap.size wr w1 := (Below.refl _ wr).drew.trans hb1
          have d0 := below_keep hbb lg c0
          have d1 := below_keep hbb lg c1
          have d3 := below_keep hbb lg c3
          have d4 := below_keep hbb lg c4
          have lg1 := lt_of_cell d0
          have hdr := decimal_any y.r w1 r3 r4
          have hbw1 := hb.trans (hbb.mono hb.size)
          clear c0 c1 c2 c3 c4 hb1 hbb hb
          go_wp2_with fail
          refine hdr.mono ?_
          clear hdr
          rintro e w2 ⟨rfl, hb2⟩
          have f0 := below_keep hb2 lg1 d0
          have f1 := below_keep hb2 lg1 d1
          have f4 := below_keep hb2 lg1 d4
          have lg2 := lt_of_cell f0
          have hdn := decimal_any (y.v.size : Int) w2 (by omega) (by omega)
          have hbw2 := hbw1.trans (hb2.mono hbw1.size)
          clear d0 d1 d3 d4 hb2 hbw1
          go_wp2_with fail
          refine hdn.mono ?_
          clear hdn
          rintro e w3 ⟨rfl, hb3⟩
          have q0 := below_keep hb3 lg2 f0
          have q1 := below_keep hb3 lg2 f1
          have q4 := below_keep hb3 lg2 f4
          have hbw3 := hbw2.trans (hb3.mono hbw2.size)
          clear f0 f1 f4 hb3 hbw2
          have HL : Hid (linesStep pre s y = s ++ y.n ++ ⟨#[46]⟩ ++ y.f ++ ⟨#[32]⟩ ++ decL y.c ++ ⟨#[32]⟩ ++ decL y.r ++ ⟨#[32]⟩ ++ decL (y.v.size : Int) ++ ⟨#[32]⟩ ++ y.v ++ ⟨#[10]⟩) := by
            show linesStep pre s y = _
            simp [linesStep, hbg, lineB]
          have z1 := decL_size y.c
          have z2 := decL_size y.r
          have z3 := decL_size (y.v.size : Int)
          generalize decL y.c = t1 at *
          generalize decL y.r = t2 at *
          generalize decL (y.v.size : Int) = t3 at *
          clear hB
          go_wp2_with fail
          go_quiet (fail)
          go_wp2_with fail
          go_roundg (gk - 1)
          case rel =>
            refine ⟨k + 1, by omega, by go_num, by rw [HS.out, HL.out], ?_, hbw3.trans ⟨rfl, rfl, rfl, Nat.le_refl _, fun _ _ => rfl⟩⟩
            rw [HS.out, HL.out]
            simp only [app_size, e1, e3, e4]
            omega
          case measure => omega
    · go_wp2
      go_ret
      have e : l.take k = l := List.take_of_length_le (by omega)
      exact ⟨by rw [e]; rfl, hb⟩
end Go.Proofs.YtjhlijobdihplaaGreatDoor
