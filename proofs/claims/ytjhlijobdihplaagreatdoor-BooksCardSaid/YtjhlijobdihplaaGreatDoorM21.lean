import Derived.Test.YtjhlijobdihplaaGreatDoorM06
import Derived.Test.YtjhlijobdihplaaGreatDoorM08
import Derived.Test.YtjhlijobdihplaaGreatDoorM10
import Derived.Test.YtjhlijobdihplaaGreatDoorM17
import Derived.Test.YtjhlijobdihplaaGreatDoorM04
namespace Go.Proofs.YtjhlijobdihplaaGreatDoor
open Go.RowKit Go.Maps Go.Shelf

theorem nodup_len : ∀ (a b : List Reg), a.Nodup → (∀ y ∈ a, y ∈ b) → a.length ≤ b.length
  | [], _, _, _ => by simp
  | y :: a, b, hn, hs => by
    haveI : DecidableEq Reg := fun a b => Classical.propDecidable (a = b)
    have hy := hs y (by simp)
    obtain ⟨h1, h2⟩ := List.nodup_cons.1 hn
    have h3 := nodup_len a (b.erase y) h2 (fun z hz => (List.mem_erase_of_ne (fun e : z = y => h1 (by rw [← e]; exact hz))).2 (hs z (by simp [hz])))
    have h4 := List.length_erase_of_mem hy
    have h5 : 0 < b.length := List.length_pos_of_mem hy
    simp only [List.length_cons]
    omega

/-- what beginning's closure has told, between two names -/
def VisB (l : List Reg) (P : Reg → Bool) (left : Lit → Bool) (pre : List Reg) : Prop :=
  pre.Nodup ∧ (∀ y ∈ pre, y ∈ l) ∧ ∀ y ∈ l, (y ∈ pre ↔ P y = true ∧ left (keyL y.n) = false)
/-- the same, while it goes over the registers of x -/
def VisI (l : List Reg) (P : Reg → Bool) (left : Lit → Bool) (x : ByteArray) (left2 : Lit → Bool) (pre : List Reg) : Prop :=
  pre.Nodup ∧ (∀ y ∈ pre, y ∈ l) ∧ ∀ y ∈ l, (y ∈ pre ↔ P y = true ∧ (left (keyL y.n) = false ∨ (y.n = x ∧ left2 (keyL y.f) = false)))

theorem VisB.start {l : List Reg} {P : Reg → Bool} {nb : ByteArray → Nat} {D : DataW Unit} (hhas : ∀ s, Maps.has D (keyL s) = (outerM l nb s).isSome) : VisB l P (Maps.has D) [] := by
  refine ⟨List.nodup_nil, by simp, fun y hy => ⟨fun h => by simp at h, fun h => ?_⟩⟩
  have : hasN l y.n = true := hasN_iff.2 ⟨y, hy, rfl⟩
  rw [hhas y.n] at h
  simp [outerM, this] at h
theorem VisB.into {l : List Reg} (hs : SortedB l) {P : Reg → Bool} {left : Lit → Bool} {pre : List Reg} (h : VisB l P left pre) {x : ByteArray} {D : DataW Unit} (hhas : ∀ s, Maps.has D (keyL s) = (innerM l x s).isSome) : VisI l P left x (Maps.has D) pre := by
  refine ⟨h.1, h.2.1, fun y hy => ?_⟩
  rw [h.2.2 y hy]
  constructor
  · rintro ⟨a, b⟩; exact ⟨a, .inl b⟩
  · rintro ⟨a, b | ⟨b, c⟩⟩
    · exact ⟨a, b⟩
    · have hg := getR_of_mem hs hy
      rw [b] at hg
      rw [hhas y.f] at c
      simp [innerM, hg] at c
theorem VisI.fresh {l : List Reg} {P : Reg → Bool} {left left2 : Lit → Bool} {x f : ByteArray} {pre : List Reg} {z : Reg} (h : VisI l P left x left2 pre) (hz : getR l x f = some z) (hx : left (keyL x) = true) (hl : left2 (keyL f) = true) : z ∉ pre := fun hin => by
  obtain ⟨hm, hzn, hzf⟩ := getR_mem hz
  rcases ((h.2.2 z hm).1 hin).2 with a | ⟨_, a⟩
  · rw [hzn, hx] at a; cases a
  · rw [hzf, hl] at a; cases a
theorem VisI.yes {l : List Reg} (hs : SortedB l) {P : Reg → Bool} {left left2 : Lit → Bool} {x f : ByteArray} {pre : List Reg} {z : Reg} (h : VisI l P left x left2 pre) (hz : getR l x f = some z) (hx : left (keyL x) = true) (hl : left2 (keyL f) = true) (hp : P z = true) :
    VisI l P left x (fun q => left2 q && !q.sameKey (keyL f)) (pre ++ [z]) := by
  have hnot := h.fresh hz hx hl
  obtain ⟨h1, h2, h3⟩ := h
  obtain ⟨hm, hzn, hzf⟩ := getR_mem hz
  refine ⟨?_, ?_, fun y hy => ?_⟩
  · rw [List.nodup_append]
    exact ⟨h1, by simp, fun a ha b hb => by
      simp at hb; subst hb
      intro e; subst e; exact hnot ha⟩
  · intro y hy
    rcases List.mem_append.1 hy with hy | hy
    · exact h2 y hy
    · simp at hy; subst hy; exact hm
  · simp only [List.mem_append, List.mem_singleton, Bool.and_eq_false_iff, Bool.not_eq_false']
    rw [h3 y hy, same_keyL]
    constructor
    · rintro (⟨a, b | ⟨b, c⟩⟩ | rfl)
      · exact ⟨a, .inl b⟩
      · exact ⟨a, .inr ⟨b, .inl c⟩⟩
      · exact ⟨hp, .inr ⟨hzn, .inr hzf⟩⟩
    · rintro ⟨a, b | ⟨b, c | c⟩⟩
      · exact .inl ⟨a, .inl b⟩
      · exact .inl ⟨a, .inr ⟨b, c⟩⟩
      · right
        have := getR_of_mem hs hy
        rw [b, c, hz] at this
        cases this; rfl
theorem VisI.no {l : List Reg} (hs : SortedB l) {P : Reg → Bool} {left left2 : Lit → Bool} {x f : ByteArray} {pre : List Reg} {z : Reg} (h : VisI l P left x left2 pre) (hz : getR l x f = some z) (hp : P z = false) :
    VisI l P left x (fun q => left2 q && !q.sameKey (keyL f)) pre := by
  obtain ⟨h1, h2, h3⟩ := h
  refine ⟨h1, h2, fun y hy => ?_⟩
  simp only [Bool.and_eq_false_iff, Bool.not_eq_false']
  rw [h3 y hy, same_keyL]
  constructor
  · rintro ⟨a, b | ⟨b, c⟩⟩
    · exact ⟨a, .inl b⟩
    · exact ⟨a, .inr ⟨b, .inl c⟩⟩
  · rintro ⟨a, b | ⟨b, c | c⟩⟩
    · exact ⟨a, .inl b⟩
    · exact ⟨a, .inr ⟨b, c⟩⟩
    · have := getR_of_mem hs hy
      rw [b, c, hz] at this
      cases this
      rw [hp] at a; cases a
theorem VisI.done {l : List Reg} {P : Reg → Bool} {left left2 : Lit → Bool} {x : ByteArray} {pre : List Reg} (h : VisI l P left x left2 pre) (hl : ∀ q, left2 q = false) : VisB l P (fun q => left q && !q.sameKey (keyL x)) pre := by
  refine ⟨h.1, h.2.1, fun y hy => ?_⟩
  rw [h.2.2 y hy]
  simp only [Bool.and_eq_false_iff, Bool.not_eq_false', same_keyL]
  constructor
  · rintro ⟨a, b | ⟨b, c⟩⟩
    · exact ⟨a, .inl b⟩
    · exact ⟨a, .inr b⟩
  · rintro ⟨a, b | b⟩
    · exact ⟨a, .inl b⟩
    · exact ⟨a, .inr ⟨b, hl _⟩⟩
theorem VisB.done {l : List Reg} (hs : SortedB l) {P : Reg → Bool} {left : Lit → Bool} {pre : List Reg} (h : VisB l P left pre) (hl : ∀ q, left q = false) : pre.Perm (l.filter P) := by
  have hnd : (l.filter P).Nodup := by
    refine List.Pairwise.filter _ (List.Pairwise.imp ?_ hs)
    intro a b hab e
    subst e
    rw [aheadB_irrefl] at hab; cases hab
  rw [List.perm_ext_iff_of_nodup h.1 hnd]
  intro y
  constructor
  · intro hy
    exact List.mem_filter.2 ⟨h.2.1 y hy, ((h.2.2 y (h.2.1 y hy)).1 hy).1⟩
  · intro hy
    obtain ⟨h1, h2⟩ := List.mem_filter.1 hy
    exact (h.2.2 y h1).2 ⟨h2, hl _⟩
theorem VisI.sub {l : List Reg} {P : Reg → Bool} {left left2 : Lit → Bool} {x : ByteArray} {pre : List Reg} (h : VisI l P left x left2 pre) : ∀ y ∈ pre, y ∈ l.filter P := fun y hy => List.mem_filter.2 ⟨h.2.1 y hy, ((h.2.2 y (h.2.1 y hy)).1 hy).1⟩
theorem VisI.len {l : List Reg} {P : Reg → Bool} {left left2 : Lit → Bool} {x f : ByteArray} {pre : List Reg} {z : Reg} (h : VisI l P left x left2 pre) (hz : getR l x f = some z) (hx : left (keyL x) = true) (hl : left2 (keyL f) = true) : pre.length < l.length := by
  have hnot := h.fresh hz hx hl
  obtain ⟨hm, _, _⟩ := getR_mem hz
  have := nodup_len (z :: pre) l (List.nodup_cons.2 ⟨hnot, h.1⟩) (fun y hy => by
    rcases List.mem_cons.1 hy with rfl | hy
    · exact hm
    · exact h.2.1 y hy)
  simp only [List.length_cons] at this
  omega
end Go.Proofs.YtjhlijobdihplaaGreatDoor
namespace Go.Proofs.YtjhlijobdihplaaGreatDoor
open Go.RowKit Go.Maps Go.Shelf
attribute [local go_sem] Oper.semAt_some

set_option maxHeartbeats 400000 in
theorem key_any (z : Reg) (w : World) (h1 : z.n.size ≤ 5000) (h2 : z.f.size ≤ 5000) :
    Calls Tryz.prog 103 #[.agg #[.string z.n, .string z.f, .int .i64 z.c, .int .i64 z.r, .string z.v]] w fun e w' => e = .returned (.string (keyB z)) ∧ Below w.heap.size w w' := by
  have happ := app_size
  have e1 : (ByteArray.mk #[46]).size = 1 := rfl
  have e2 : (ByteArray.mk #[0]).size = 1 := rfl
  go_enter Tryz.func103, Tryz.ntmps103
  go_wp2_with fail
  go_ret
  exact ⟨rfl, (Below.refl _ _).alloc (Nat.le_refl _) _⟩

set_option maxRecDepth 100000 in
set_option maxHeartbeats 4000000 in
theorem beginning1_stops (m : Nat) (hm : 4 ≤ m) (bb pbx p o M n : Nat) (nb : ByteArray → Nat) (l : List Reg) (s : ByteArray) (w : World) (h1 : w.cell? ⟨bb, 0, none⟩ = some (.pointer (some ⟨p, o, none⟩))) (h2 : w.cell? ⟨pbx, 0, none⟩ = some (.string s)) (hc : w.cell? ⟨p, o, none⟩ = some (.map (some M)))
    (hM : Maps2 w M nb l n) (hS : SortedB l) (hs : s.size ≤ maxLen) (hN : ∀ y ∈ l, y.n.size ≤ 100 ∧ y.f.size ≤ 100) (hl : l.length ≤ n) (fp : World → Nat → Prop) (hfp : FpOk fp w) (hnp : ¬ fp w pbx) :
    SeqStopsK Fence.wide m Tryz.prog 102 #[.pointer (some ⟨bb, 0, none⟩), .pointer (some ⟨pbx, 0, none⟩)] (fun x : Reg => #[Value.agg #[.string x.n, .string x.f, .int .i64 x.c, .int .i64 x.r, .string x.v]]) (KeepC fp 0)
      (fun xs => xs.Perm (beginL l s)) (fun pre => pre ≠ [] ∧ ∀ y ∈ pre, y ∈ beginL l s) n w := fun lp J Jx W hW hJ hJx hY h0 => by
  have h1m : 1 ≤ m := by omega
  have lt_of : ∀ {q j : Nat} {u : Value}, w.cell? ⟨q, j, none⟩ = some u → q < w.heap.size := fun {q j u} h => by
    rcases Nat.lt_or_ge q w.heap.size with h' | h'
    · exact h'
    · simp [World.cell?, Array.getElem?_eq_none h'] at h
  have l1 := lt_of h1
  have l2 := lt_of h2
  have l3 := lt_of hc
  have hWs := hW.size
  have c1 : W.cell? ⟨bb, 0, none⟩ = some (.pointer (some ⟨p, o, none⟩)) := (hW.cell (p := ⟨bb, 0, none⟩) l1).trans h1
  have c2 : W.cell? ⟨pbx, 0, none⟩ = some (.string s) := (hW.cell (p := ⟨pbx, 0, none⟩) l2).trans h2
  have c3 : W.cell? ⟨p, o, none⟩ = some (.map (some M)) := (hW.cell (p := ⟨p, o, none⟩) l3).trans hc
  have hMl := hM.lt
  have hMW : Maps2 W M nb l n := hM.block (fun k hk => hW.block k (hMl k hk))
  have hnpW : ¬ fp W pbx := fun h => hnp (hfp.kept _ _ none (Nat.le_refl _) (below_grown hW) (fun r e => by cases e) _ h)
  obtain ⟨D, hown, hhas, hat0⟩ := hMW.1
  have hMlt := hMl M (.inl rfl)
  clear h1 h2 hc hM hnp
  refine callsIn_of_wp Tryz.func102 rfl trivial ?_ rfl
  simp only [Tryz.ntmps102, List.size_toArray, List.length_cons, List.length_nil, Nat.reduceAdd, Nat.reduceSub, Array.replicate_succ, Array.replicate_zero, List.push_toArray, List.append_toArray, List.nil_append, List.cons_append]
  gi_wp2_with (gi_at_range; refine wpListIn_range_own _ rfl _ 104 rfl 9 150 strLaw Tryz.underlying104 _ M n _ rfl hown ?_; intro w0 hrg0 hg0 hs0)
  gi_loopw [7] (fun _ wr => ∃ (left : Lit → Bool) (cnt : Nat) (pre : List Reg), wr.ranges Tryz.prog 9 Rout M W.heap.size n D left cnt ∧ J pre wr ∧ VisB l (fun y => beginsB (keyB y) s) left pre ∧ W.heap.size < wr.heap.size ∧
      (∀ k, footB M nb l k → wr.heap[k]? = W.heap[k]?) ∧ wr.cell? ⟨pbx, 0, none⟩ = some (.string s) ∧ ¬ fp wr pbx)
    (fun _ wr => wr.rangeLeft M W.heap.size)
  case atStart =>
    refine ⟨_, _, [], hrg0, hJ _ _ _ none h0 hg0 (fun r e => by cases e), VisB.start hhas, by omega, fun k hk => hg0.block k (Nat.lt_of_lt_of_le (hMl k hk) hWs) (by simp), ?_, fun h => hnpW (hfp.kept _ _ none hWs hg0 (fun r e => by cases e) _ h)⟩
    rw [World.cell?_of_block (w := W) (a := ⟨pbx, 0, none⟩) (hg0.block pbx (by omega) (by simp))]; exact c2
  case round =>
    obtain ⟨left, cnt, pre, hrg, hJp, hvis, hsz, hkp, hpc, hnf⟩ := hrel
    clear hrg0 hg0 hs0 hnpW
    gi_wp2_with (gi_at_next; refine wpListIn_next_ranges _ rfl _ rfl 9 strLaw Rout Value.string (fun b : Nat => Value.map (some b)) invS invOut M W.heap.size n _ _ _ rfl hrg ?_ ?_)
    · intro hc0 hl0
      gi_wp2
      go_end0
      exact ⟨⟨_, rfl⟩, .inl ⟨pre, hvis.done hS hl0, hJp⟩⟩
    · intro x b kl yd yp w1 cnt1 hkey hlk hv hat hrg1 hlt hg1 hs1 hen
      obtain ⟨rfl, hxs⟩ := keyS hkey
      obtain ⟨hx, rfl⟩ := outer_step hhas hat0 hat hv
      obtain ⟨D2, hown2, hhas2, hat2⟩ := (hMW.2.1 x hx).1
      have hnbl := hMl (nb x) (.inr ⟨x, hx, rfl⟩)
      have hiw := hrg.iter_walk
      have hk1 : ∀ k, footB M nb l k → w1.heap[k]? = W.heap[k]? := fun k hk => (hg1.block k (by have := hMl k hk; omega) (fun e => by have := Option.some.inj e; have := hMl k hk; omega)).trans (hkp k hk)
      have hown21 : w1.ownsMap Tryz.prog 9 Rin (nb x) n D2 := by
        obtain ⟨es, clock, q1, q2⟩ := hown2
        exact ⟨es, clock, (hk1 _ (.inr ⟨x, hx, rfl⟩)).trans q1, q2⟩
      have hJ1 : J pre w1 := hJ _ _ _ (some W.heap.size) hJp hg1 (fun r e => by cases e; exact ⟨Nat.le_refl _, hiw⟩)
      have hpc1 : w1.cell? ⟨pbx, 0, none⟩ = some (.string s) := by
        rw [World.cell?_of_block (w := wr) (a := ⟨pbx, 0, none⟩) (hg1.block pbx (by omega) (fun e => by have := Option.some.inj e; omega))]; exact hpc
      have hnf1 : ¬ fp w1 pbx := fun h => hnf (hfp.kept _ _ (some W.heap.size) (by omega) hg1 (fun r e => by cases e; obtain ⟨o, ho, hw⟩ := hiw; exact ⟨o, ho, Obj.not_cells_of_walk hw⟩) _ h)
      have hw1 : W.heap.size < w1.heap.size := by omega
      have HLo : Hid (wr.rangeLeft M W.heap.size = cnt) := hrg.left_eq
      clear hs1 hg1 hJp hpc hnf hkp hat hv hkey hrg hiw
      gi_wp2_with (gi_at_range; refine wpListIn_range_own _ rfl _ 150 rfl 9 99 strLaw Tryz.underlying150 _ (nb x) n _ rfl hown21 ?_; intro w2 hrg2 hg2 hs2)
      go_frame
      gi_loopw [7] (fun _ wq => ∃ (left2 : Lit → Bool) (cnt2 : Nat) (pre2 : List Reg), wq.ranges Tryz.prog 9 Rin (nb x) w1.heap.size n D2 left2 cnt2 ∧ wq.ranges Tryz.prog 9 Rout M W.heap.size n D (fun z => left z && !z.sameKey (keyL x)) cnt1 ∧
          J pre2 wq ∧ VisI l (fun y => beginsB (keyB y) s) left x left2 pre2 ∧ w1.heap.size < wq.heap.size ∧ (∀ k, footB M nb l k → wq.heap[k]? = W.heap[k]?) ∧ wq.cell? ⟨pbx, 0, none⟩ = some (.string s) ∧ ¬ fp wq pbx)
        (fun _ wq => wq.rangeLeft (nb x) w1.heap.size)
      case atStart =>
        refine ⟨_, _, pre, hrg2, hrg1.kept hg2 (by simp) (by simp), hJ _ _ _ none hJ1 hg2 (fun r e => by cases e), hvis.into hS hhas2, by omega, fun k hk => (hg2.block k (by have := hMl k hk; omega) (by simp)).trans (hk1 k hk), ?_, fun h => hnf1 (hfp.kept _ _ none (by omega) hg2 (fun r e => by cases e) _ h)⟩
        rw [World.cell?_of_block (w := w1) (a := ⟨pbx, 0, none⟩) (hg2.block pbx (by omega) (by simp))]; exact hpc1
      case round =>
        obtain ⟨left2, cnt2, pre2, hrq, hro, hJq, hvq, hwq, hkq, hpq, hnq⟩ := hrel
        clear hs2 hg2 hrg2 hnf1 hpc1 hk1 hJ1 hvis hrg1
        gi_wp2_with (gi_at_next; refine wpListIn_next_ranges _ rfl _ rfl 9 strLaw Rin Value.string regV invS invIn (nb x) w1.heap.size n _ _ _ rfl hrq ?_ ?_)
        · intro hc0 hl0
          gi_wp2
          go_roundw
          case rel => exact ⟨_, cnt1, pre2, hro, hJq, hvq.done hl0, by omega, hkq, hpq, hnq⟩
          case measure => rw [hro.left_eq, HLo.out]; exact hlt
        · intro f z kl2 yd2 yp2 w3 cnt3 hkey2 hlk2 hv2 hat3 hrg3 hlt3 hg3 hs3 hen3
          obtain ⟨rfl, hfs⟩ := keyS hkey2
          have hz := inner_step hhas2 hat2 hat3 hv2
          obtain ⟨hzm, hzn, hzf⟩ := getR_mem hz
          have hiw := hrq.iter_walk
          have hlen := hvq.len hz hlk hlk2
          obtain ⟨hn1, hn2⟩ := hN z hzm
          have HL : Hid (wr.rangeLeft (nb x) w1.heap.size = cnt2) := hrq.left_eq
          have hs3' : w1.heap.size < w3.heap.size := by omega
          have hJ3 : J pre2 w3 := hJ _ _ _ (some w1.heap.size) hJq hg3 (fun r e => by cases e; exact ⟨by omega, hiw⟩)
          have hro3 := hro.kept hg3 (fun e => by have := Option.some.inj e; omega) (fun e => by have := Option.some.inj e; omega)
          have hk3 : ∀ k, footB M nb l k → w3.heap[k]? = W.heap[k]? := fun k hk => (hg3.block k (by have := hMl k hk; omega) (fun e => by have := Option.some.inj e; have := hMl k hk; omega)).trans (hkq k hk)
          have hp3 : w3.cell? ⟨pbx, 0, none⟩ = some (.string s) := by
            rw [World.cell?_of_block (w := wr) (a := ⟨pbx, 0, none⟩) (hg3.block pbx (by omega) (fun e => by have := Option.some.inj e; omega))]; exact hpq
          have hn3 : ¬ fp w3 pbx := fun h => hnq (hfp.kept _ _ (some w1.heap.size) (by omega) hg3 (fun r e => by cases e; obtain ⟨o, ho, hw⟩ := hiw; exact ⟨o, ho, Obj.not_cells_of_walk hw⟩) _ h)
          have HEND : Hid (∀ w5, (w3.alloc (.cells #[.string z.n, .string z.f, .int .i64 z.c, .int .i64 z.r, .string z.v] 99)).grownBy w5 none → w5.ranges Tryz.prog 9 Rin (nb x) w1.heap.size n D2 (fun q => left2 q && !q.sameKey (keyL f)) cnt3 ∧ w5.ranges Tryz.prog 9 Rout M W.heap.size n D (fun q => left q && !q.sameKey (keyL x)) cnt1 ∧
              J pre2 w5 ∧ w1.heap.size < w5.heap.size ∧ (∀ k, footB M nb l k → w5.heap[k]? = W.heap[k]?) ∧ w5.cell? ⟨pbx, 0, none⟩ = some (.string s) ∧ ¬ fp w5 pbx ∧ five w5 w3.heap.size z) := by
            intro w5 hg
            have hsz5 := hg.size
            rw [World.size_alloc] at hsz5
            have hga := World.grownBy_alloc w3 (.cells #[.string z.n, .string z.f, .int .i64 z.c, .int .i64 z.r, .string z.v] 99) none
            have hf : five (w3.alloc (.cells #[.string z.n, .string z.f, .int .i64 z.c, .int .i64 z.r, .string z.v] 99)) w3.heap.size z := ⟨by simp, by simp, by simp, by simp, by simp⟩
            refine ⟨(hrg3.alloc _).kept hg (by simp) (by simp), (hro3.alloc _).kept hg (by simp) (by simp), hJ _ _ _ none (hJ _ _ _ none hJ3 hga (fun r e => by cases e)) hg (fun r e => by cases e), by omega, fun k hk => ?_, ?_, fun h => hn3 (hfp.kept _ _ none (by omega) hga (fun r e => by cases e) _ (hfp.kept _ _ none (by rw [World.size_alloc]; omega) hg (fun r e => by cases e) _ h)), five_own hf hg (fun r e => by cases e)⟩
            · have hkl := hMl k hk
              rw [hg.block k (by rw [World.size_alloc]; omega) (by simp), Below.heap_alloc _ _ _ (by omega)]; exact hk3 k hk
            · exact cell_kept (cell_kept hp3 hga (fun r e => by cases e)) hg (fun r e => by cases e)
          have HVY : Hid (beginsB (keyB z) s = true → VisI l (fun y => beginsB (keyB y) s) left x (fun q => left2 q && !q.sameKey (keyL f)) (pre2 ++ [z])) := fun hp => hvq.yes hS hz hlk hlk2 hp
          have HVN : Hid (beginsB (keyB z) s = false → VisI l (fun y => beginsB (keyB y) s) left x (fun q => left2 q && !q.sameKey (keyL f)) pre2) := fun hp => hvq.no hS hz hp
          have HSUB : Hid (∀ y ∈ pre2, y ∈ beginL l s) := hvq.sub
          have HZ : Hid (z ∈ l) := hzm
          have HY : Hid (∀ W1, J pre2 W1 → YieldAt Fence.wide (m - 1) Tryz.prog lp #[Value.agg #[.string z.n, .string z.f, .int .i64 z.c, .int .i64 z.r, .string z.v]] W1 fun e W' => (e = .returned (.bool true) ∧ J (pre2 ++ [z]) W' ∧ KeepC fp 0 W1 W') ∨ (e = .returned (.bool false) ∧ Jx (pre2 ++ [z]) W')) := fun W1 q1 => hY pre2 z W1 q1 (by omega)
          have hkeyC := fun W' => key_any z W' (by omega) (by omega)
          have hpreC := fun W' => hasPrefix_any (keyB z) s W' (by unfold maxLen keyB; rw [app_size, app_size, app_size]; show _ + 1 + _ + 1 ≤ _; omega) hs
          have HFT : Hid (∀ k, footB M nb l k → ∃ es clock, W.heap[k]? = some (.map es clock)) := by
            rintro k (rfl | ⟨q, hq, rfl⟩)
            · obtain ⟨es, clock, q1, _⟩ := hown
              exact ⟨es, clock, q1⟩
            · obtain ⟨D9, ⟨es, clock, q1, _⟩, _⟩ := (hMW.2.1 q hq).1
              exact ⟨es, clock, q1⟩
          unfold regV at hen3 ⊢
          clear hs3 hg3 hrq hro hJq hvq hwq hkq hpq hnq hJ3 hro3 hk3 hp3 hn3 hzn hzf hz hzm hat3 hlk hlk2 hkey2 hv2 hY hrg3 hJ hJx h0 hown hhas hat0 hown2 hhas2 hat2 hown21 hMW hiw c1 c2 c3 hN
          cases hbg : beginsB (keyB z) s
          · rw [hbg] at hpreC
            gi_wp2
            gi_cut [32] from 33 (fun s32 wd => s32 = .bool false ∧ ∃ pre', wd.ranges Tryz.prog 9 Rin (nb x) w1.heap.size n D2 (fun q => left2 q && !q.sameKey (keyL f)) cnt3 ∧ wd.ranges Tryz.prog 9 Rout M W.heap.size n D (fun q => left q && !q.sameKey (keyL x)) cnt1 ∧
              J pre' wd ∧ VisI l (fun y => beginsB (keyB y) s) left x (fun q => left2 q && !q.sameKey (keyL f)) pre' ∧ w1.heap.size < wd.heap.size ∧ (∀ k, footB M nb l k → wd.heap[k]? = W.heap[k]?) ∧ wd.cell? ⟨pbx, 0, none⟩ = some (.string s) ∧ ¬ fp wd pbx)
            case first =>
              refine wpIn_wide.2 ?_
              refine region_quiet_class (fun w' => (w3.alloc (.cells #[.string z.n, .string z.f, .int .i64 z.c, .int .i64 z.r, .string z.v] 99)).grownBy w' none) (by kernel_rfl) (by kernel_rfl) ⟨rfl, rfl, rfl, Nat.le_refl _, fun _ _ _ => rfl⟩ ?_
              refine quiet_do (.agg #[.string z.n, .string z.f, .int .i64 z.c, .int .i64 z.r, .string z.v]) rfl (fun w' hw' => ?_) ?_
              · obtain ⟨_, _, _, _, _, hp0, _, z0, z1, z2, z3, z4⟩ := HEND.out w' hw'
                go_simp
              go_frame
              refine quiet_do (.string (keyB z)) rfl (fun w' hw' => ?_) ?_
              · go_simp
                refine (hkeyC w').mono ?_
                rintro e w5 ⟨rfl, hb5⟩
                exact ⟨rfl, hb5.os.trans hw'.os, hb5.tape.trans hw'.tape, hb5.output.trans hw'.output, Nat.le_trans hw'.size hb5.size, fun k hk hr => (hb5.block k (Nat.lt_of_lt_of_le hk hw'.size)).trans (hw'.block k hk hr)⟩
              go_frame
              refine quiet_do (.string s) rfl (fun w' hw' => ?_) ?_
              · obtain ⟨_, _, _, _, _, hp0, _, _⟩ := HEND.out w' hw'
                go_simp
              go_frame
              refine quiet_do (.bool false) rfl (fun w' hw' => ?_) ?_
              · go_simp
                refine (hpreC w').mono ?_
                rintro e w5 ⟨rfl, rfl⟩
                exact ⟨rfl, hw'⟩
              go_frame
              refine quiet_do (.bool false) rfl (fun w' hw' => ?_) ?_
              · go_simp
              go_frame
              refine quiet_skip rfl ?_
              go_frame
              refine quiet_skip rfl ?_
              go_frame
              refine quiet_skip rfl ?_
              go_frame
              refine quiet_skip rfl ?_
              go_frame
              refine quiet_do (.bool false) rfl (fun w' hw' => ?_) ?_
              · go_simp
              go_frame
              refine wpQuiet_nil ?_
              intro w' hw'
              obtain ⟨r1, r2, r3, r4, r5, r6, r7, _⟩ := HEND.out w' hw'
              gi_wp2
              gi_meet
              case rel => exact ⟨rfl, pre2, r1, r2, r3, HVN.out hbg, r4, r5, r6, r7⟩
            case rest =>
              obtain ⟨rfl, pre', r1, r2, r3, r4, r5, r6, r7, r8⟩ := hcut
              gi_wp2
              go_roundw
              case rel => exact ⟨_, cnt3, pre', r1, r2, r3, r4, r5, r6, r7, r8⟩
              case measure => rw [r1.left_eq, HL.out]; exact hlt3
          · rw [hbg] at hpreC
            gi_wp2
            gi_cut [32] from 33 (fun s32 wd => ∃ b : Bool, s32 = .bool (!b) ∧ (b = true → wd.ranges Tryz.prog 9 Rin (nb x) w1.heap.size n D2 (fun q => left2 q && !q.sameKey (keyL f)) cnt3 ∧ wd.ranges Tryz.prog 9 Rout M W.heap.size n D (fun q => left q && !q.sameKey (keyL x)) cnt1 ∧
              J (pre2 ++ [z]) wd ∧ w1.heap.size < wd.heap.size ∧ (∀ k, footB M nb l k → wd.heap[k]? = W.heap[k]?) ∧ wd.cell? ⟨pbx, 0, none⟩ = some (.string s) ∧ ¬ fp wd pbx) ∧ (b = false → Jx (pre2 ++ [z]) wd))
            case first =>
              obtain ⟨_, _, _, _, _, hp0, _, z0, z1, z2, z3, z4⟩ := HEND.out _ ⟨rfl, rfl, rfl, Nat.le_refl _, fun _ _ _ => rfl⟩
              have HR : Hid (∀ w5, (w3.alloc (.cells #[.string z.n, .string z.f, .int .i64 z.c, .int .i64 z.r, .string z.v] 99)).grownBy w5 none → YieldAt Fence.wide (m - 1) Tryz.prog lp #[Value.agg #[.string z.n, .string z.f, .int .i64 z.c, .int .i64 z.r, .string z.v]] w5 fun e wd => ∃ b : Bool, e = .returned (.bool b) ∧
                  (b = true → wd.ranges Tryz.prog 9 Rin (nb x) w1.heap.size n D2 (fun q => left2 q && !q.sameKey (keyL f)) cnt3 ∧ wd.ranges Tryz.prog 9 Rout M W.heap.size n D (fun q => left q && !q.sameKey (keyL x)) cnt1 ∧
                  J (pre2 ++ [z]) wd ∧ w1.heap.size < wd.heap.size ∧ (∀ k, footB M nb l k → wd.heap[k]? = W.heap[k]?) ∧ wd.cell? ⟨pbx, 0, none⟩ = some (.string s) ∧ ¬ fp wd pbx) ∧ (b = false → Jx (pre2 ++ [z]) wd)) := by
                intro w5 hg5
                obtain ⟨r1, r2, r3, r4, r5, r6, r7, _⟩ := HEND.out w5 hg5
                obtain ⟨fn, tmps, assign, body, hy, hR⟩ := HY.out w5 r3
                refine ⟨fn, tmps, assign, body, hy, hR.mono ?_⟩
                rintro e W5 (⟨rfl, hJ5, hk5⟩ | ⟨rfl, hx5⟩)
                · refine ⟨true, rfl, fun _ => ⟨r1.of_walks hk5.1, r2.of_walks hk5.1, hJ5, Nat.lt_of_lt_of_le r4 hk5.1.size, fun k hk => ?_, hk5.2.cell (Nat.zero_le _) r7 r6, fun h => ?_⟩, fun h => by cases h⟩
                  · obtain ⟨es, clock, hm⟩ := HFT.out k hk
                    rw [hm]
                    exact hk5.1.same k _ ((r5 k hk).trans hm) rfl
                  · rcases hk5.2.2.2 _ h with h1 | h1
                    · exact r7 h1
                    · omega
                · exact ⟨false, rfl, (fun h => by cases h), fun _ => hx5⟩
              gi_region_with (first | (refine ⟨trivial, ?_⟩; refine (callsIn_wide.2 (hkeyC _)).mono ?_; rintro e w5 ⟨rfl, hb5⟩; have hg5 : (w3.alloc (.cells #[.string z.n, .string z.f, .int .i64 z.c, .int .i64 z.r, .string z.v] 99)).grownBy w5 none := ⟨hb5.os, hb5.tape, hb5.output, hb5.size, fun k hk _ => hb5.block k hk⟩; obtain ⟨r1, r2, r3, r4, r5, r6, r7, y0, y1, y2, y3, y4⟩ := HEND.out w5 hg5; obtain ⟨fn, tmps, assign, body, hy, hR⟩ := HR.out w5 hg5) | (refine ⟨trivial, ?_⟩; refine (callsIn_wide.2 (hpreC _)).mono ?_; rintro e _ ⟨rfl, rfl⟩) | (refine hR.mono ?_; rintro e W5 ⟨b5, rfl, hb6⟩))
              all_goals gi_wp2
              all_goals gi_meet
              all_goals case rel => exact ⟨b5, rfl, hb6⟩
            case rest =>
              obtain ⟨b, rfl, hy1, hy2⟩ := hcut
              cases b
              · have hx5 := hy2 rfl
                clear hy1 hy2
                gi_wp2
                refine bodyPost_ret (results_none rfl _ _ _) rfl ?_
                exact ⟨⟨_, rfl⟩, .inr ⟨pre2 ++ [z], ⟨by simp, fun y hy => by
                  rcases List.mem_append.1 hy with h | h
                  · exact HSUB.out y h
                  · simp at h; subst h; exact List.mem_filter.2 ⟨HZ.out, hbg⟩⟩, hx5⟩⟩
              · obtain ⟨r1, r2, r3, r4, r5, r6, r7⟩ := hy1 rfl
                clear hy1 hy2
                gi_wp2
                go_roundw
                case rel => exact ⟨_, cnt3, pre2 ++ [z], r1, r2, r3, HVY.out hbg, r4, r5, r6, r7⟩
                case measure => rw [r1.left_eq, HL.out]; exact hlt3
end Go.Proofs.YtjhlijobdihplaaGreatDoor
