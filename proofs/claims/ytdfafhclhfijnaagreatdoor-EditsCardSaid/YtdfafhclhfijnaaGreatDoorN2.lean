import Derived.Sort.OwnSorted
import Derived.Shelf.Sort.Plain
import Derived.Shelf.Slices.In.SortNone
import Derived.Test.YtdfafhclhfijnaaGreatDoorN1
import Derived.Test.YtdfafhclhfijnaaGreatDoorJ1
namespace Go.Proofs.YtdfafhclhfijnaaGreatDoor
open Go.RowKit Go.Maps Go.Shelf
open Go.Sort (putRow grow)

theorem str_len (s : ByteArray) : s.toList.length = s.size := by rw [ByteArray.toList_eq]; simp

set_option maxHeartbeats 1000000 in
theorem litePrefix_any (s t : ByteArray) (w : World) (_hs : s.size ≤ maxLen) (_ht : t.size ≤ maxLen) :
    Calls Tryz.prog 93 #[.string s, .string t] w fun e w' => e = .returned (.bool (beginsB s t)) ∧ w' = w := by
  unfold maxLen at _hs _ht
  by_cases h : t.size ≤ s.size
  all_goals
    go_enter Tryz.func93, Tryz.ntmps93
    go_wp2
    go_ret
    exact ⟨ret_bool (by simp [beginsB, eqS, h]), rfl⟩
set_option maxHeartbeats 1000000 in
theorem hasPrefix_any (s t : ByteArray) (w : World) (hs : s.size ≤ maxLen) (ht : t.size ≤ maxLen) :
    Calls Tryz.prog 83 #[.string s, .string t] w fun e w' => e = .returned (.bool (beginsB s t)) ∧ w' = w := by
  have h := litePrefix_any s t w hs ht
  go_enter Tryz.func83, Tryz.ntmps83
  go_wp2_with (go_at_call 93; refine h.mono ?_; rintro e w' ⟨rfl, rfl⟩)
  go_ret
  exact ⟨rfl, rfl⟩

theorem sortStr_nil (cap : Nat) (a : Option Addr) (w : World) : Calls Tryz.prog 84 #[.slice a 0 cap] w fun e w' => e = .returned (.tuple #[]) ∧ w' = w := by
  have h := Any.slices_Sort_string_none Tryz.sortStr a cap w
  change Calls Tryz.prog 84 _ _ _ at h
  exact h

theorem enc_map (ss : List ByteArray) : ss.map Value.string = (ss.map fun s => s.data.toList).map encStr := by
  rw [List.map_map]
  refine List.map_congr_left fun s _ => ?_
  simp [encStr]

/-- slices.Sort of the names that were met -/
theorem sortNames (base : Nat) (rv : Value) (l : List Reg) (hs : SortedB l) (pre : ByteArray) (ss : List ByteArray) (hnd : ss.Nodup) (hm : ∀ s, s ∈ ss ↔ nameIn l pre s ∧ hasN l s = true) (w : World) (h : w.ownsRow base 9 1 rv ss.length (ss.map Value.string)) (hl : ss.length < 1000000) :
    Calls Tryz.prog 84 #[rv] w fun e w' => e = .returned (.tuple #[]) ∧ w'.ownsRow base 9 1 rv (namesL l pre).length ((namesL l pre).map Value.string) ∧ w.grownBy w' rv.ownBlock := by
  have hso := names_sort hs hnd hm
  have hlen : (namesL l pre).length = ss.length := by
    have := congrArg List.length hso
    simpa using this.symm
  rcases h.2 with ⟨rfl, h0⟩ | ⟨g, cap, cur, rfl, hbase, hb, h1, h2, h3, h4⟩
  · have e0 : ss = [] := List.eq_nil_of_length_eq_zero h0
    have e1 : namesL l pre = [] := List.eq_nil_of_length_eq_zero (by rw [hlen, h0])
    refine (sortStr_nil 0 none w).mono ?_
    rintro e w' ⟨rfl, rfl⟩
    rw [e1]
    exact ⟨rfl, World.ownsRow_nil _ _ _ _, ⟨rfl, rfl, rfl, Nat.le_refl _, fun _ _ _ => rfl⟩⟩
  · obtain ⟨bs, hbs⟩ : ∃ bs, (ss.map fun s => s.data.toList) = bs := ⟨_, rfl⟩
    have hbl : bs.length = ss.length := by rw [← hbs]; simp
    rw [enc_map, hbs] at h4
    rw [hbs] at hso
    have hc := Any.slices_Sort_string Tryz.sortStr g 0 cap bs w (holds_of_block hb (by rw [hbl]; simpa using h4)) (Array.getElem?_eq_some_iff.1 hb).1 (by omega)
    change Calls Tryz.prog 84 _ _ _ at hc
    rw [hbl] at hc
    refine hc.mono ?_
    rintro e w' ⟨rfl, nn, os, rfl⟩
    have e2 : (bs.mergeSort fun x y => decide (x ≤ y)) = (namesL l pre).map fun s => s.data.toList := hso
    rw [e2]
    have hl2 : ((namesL l pre).map fun s => s.data.toList).length = bs.length := by rw [List.length_map, hlen, hbl]
    have hres := ownsRow_sorted (n := nn) (os := os) hl2 hbase hb (by omega) h2 h3
    rw [hbl] at hres
    refine ⟨rfl, ?_, grownBy_sorted _⟩
    rw [enc_map, hlen]
    exact hres

/-- what Names has met -/
def MetN (l : List Reg) (pre : ByteArray) (left : Lit → Bool) (ss : List ByteArray) : Prop := ss.Nodup ∧ ∀ s, s ∈ ss ↔ (nameIn l pre s ∧ hasN l s = true) ∧ left (keyL s) = false

theorem MetN.yes {l : List Reg} {pre x : ByteArray} {left : Lit → Bool} {ss : List ByteArray} (h : MetN l pre left ss) (hx : hasN l x = true) (hl : left (keyL x) = true) (hp : nameIn l pre x) : MetN l pre (fun q => left q && !q.sameKey (keyL x)) (ss ++ [x]) := by
  obtain ⟨h1, h2⟩ := h
  have hnot : x ∉ ss := fun hin => by have := ((h2 x).1 hin).2; rw [hl] at this; cases this
  refine ⟨?_, fun s => ?_⟩
  · rw [List.nodup_append]
    exact ⟨h1, by simp, fun a ha b hb e => by simp at hb; subst hb; subst e; exact hnot ha⟩
  · simp only [List.mem_append, List.mem_singleton, Bool.and_eq_false_iff, Bool.not_eq_false']
    rw [h2 s, same_keyL]
    constructor
    · rintro (⟨a, b⟩ | e)
      · exact ⟨a, .inl b⟩
      · rw [e]; exact ⟨⟨hp, hx⟩, .inr rfl⟩
    · rintro ⟨a, b | b⟩
      · exact .inl ⟨a, b⟩
      · exact .inr b
theorem MetN.no {l : List Reg} {pre x : ByteArray} {left : Lit → Bool} {ss : List ByteArray} (h : MetN l pre left ss) (hp : ¬ nameIn l pre x) : MetN l pre (fun q => left q && !q.sameKey (keyL x)) ss := by
  obtain ⟨h1, h2⟩ := h
  refine ⟨h1, fun s => ?_⟩
  simp only [Bool.and_eq_false_iff, Bool.not_eq_false']
  rw [h2 s, same_keyL]
  constructor
  · rintro ⟨a, b⟩; exact ⟨a, .inl b⟩
  · rintro ⟨a, b | b⟩
    · exact ⟨a, b⟩
    · rw [b] at a; exact absurd a.1 hp

set_option maxRecDepth 100000 in
set_option maxHeartbeats 1000000 in
theorem namesB_nil (p o : Nat) (prefx : ByteArray) (w : World) (hc : w.cell? ⟨p, o, none⟩ = some (.map none)) :
    Calls Tryz.prog 67 #[.pointer (some ⟨p, o, none⟩), .string prefx] w fun e w' => e = .returned (.slice none 0 0) ∧ Below w.heap.size w w' := by
  have hrg := run_range_nilMap (P := Tryz.prog) w 104 9 149 Tryz.underlying104
  have hnx : ∀ ty, (Instr.next (.pointer (some ⟨w.heap.size, 0, none⟩)) false ty).run Tryz.prog (w.alloc (.mapIter none 0 #[] 0)) = _ := fun ty => run_next_nilMap w ty 0 0 #[]
  have hso := fun w => sortStr_nil 0 none w
  go_enter Tryz.func67, Tryz.ntmps67
  go_wp2
  refine wp_loop_rounds 1 ?_
  rw [rounds_succ]
  go_wp2_with (go_at_call 84; refine (hso _).mono ?_; rintro e w' ⟨rfl, rfl⟩)
  go_ret
  exact ⟨rfl, (Below.refl _ _).alloc (Nat.le_refl _) _⟩

set_option maxRecDepth 100000 in
set_option maxHeartbeats 2000000 in
theorem namesB_map (p o M n : Nat) (nb : ByteArray → Nat) (l : List Reg) (prefx : ByteArray) (w : World) (hc : w.cell? ⟨p, o, none⟩ = some (.map (some M))) (hM : Maps2 w M nb l n) (hS : SortedB l) (hp : prefx.size ≤ maxLen) (hn : n ≤ 100000) :
    Calls Tryz.prog 67 #[.pointer (some ⟨p, o, none⟩), .string prefx] w fun e w' => ∃ rv, e = .returned rv ∧ w'.ownsRow w.heap.size 9 1 rv (namesL l prefx).length ((namesL l prefx).map Value.string) ∧ Below w.heap.size w w' := by
  have hpl := lt_of_cell hc
  obtain ⟨i0, hti, hz0, hz1, hz2⟩ := info_parts Tryz.infoStr
  obtain ⟨D, hown, hhas, hat0⟩ := hM.1
  have hML := hown.lt
  have hDn := ownsMap_size hown
  go_enter Tryz.func67, Tryz.ntmps67
  go_wp2_with (at_range; refine wpList_range_own _ rfl _ 104 rfl 9 149 strLaw Tryz.underlying104 _ M n _ rfl hown ?_; intro w0 hrg0 hg0 hs0)
  go_frame
  have HSH : Hid (∀ wr, Below w.heap.size w wr → ∀ x : ByteArray, x.size ≤ maxLen → Calls Tryz.prog 60 #[.pointer (some ⟨p, o, none⟩), .string x] wr fun e w' => e = .returned (.bool (decide (0 < (fieldsL l x).length))) ∧ Below wr.heap.size wr w') := fun wr hb x hx =>
    shows_any p o M n (.map (some M)) nb l x wr ((hb.cell (p := ⟨p, o, none⟩) hpl).trans hc) ⟨_, rfl⟩ (BookAt.below (.inr ⟨rfl, hM⟩) hb) hS hx
  clear hM hc
  go_loopw [5] (fun g wr => ∃ (left : Lit → Bool) (cnt : Nat) (ss : List ByteArray) (oa : Option Addr) (ocap : Nat), g = .slice oa ss.length ocap ∧ wr.ranges Tryz.prog 9 Rout M w.heap.size n D left cnt ∧ MetN l prefx left ss ∧ ss.length + cnt ≤ n ∧ wr.ownsRow w.heap.size 9 1 (.slice oa ss.length ocap) ss.length (ss.map Value.string) ∧ Below w.heap.size w wr ∧ w.heap.size < wr.heap.size)
    (fun _ wr => wr.rangeLeft M w.heap.size)
  case atStart =>
    refine ⟨_, _, [], none, 0, rfl, hrg0, ⟨List.nodup_nil, fun s => ⟨fun h => by simp at h, fun h => ?_⟩⟩, by simpa using hDn, World.ownsRow_nil _ _ _ _, (Below.refl _ _).grown hg0 (Nat.le_refl _) (fun j hj => by cases hj), by omega⟩
    have h1 := h.2
    rw [hhas s] at h1
    simp [outerM, h.1.2] at h1
  case round =>
    obtain ⟨left, cnt, ss, oa, ocap, rfl, hrg, hmet, hlen, hrow, hb, hsz⟩ := hrel
    clear hrg0 hg0 hs0
    go_wp2_with (at_next; refine wpList_next_ranges _ rfl _ rfl 9 strLaw Rout Value.string (fun b : Nat => Value.map (some b)) invS invOut M w.heap.size n _ _ _ rfl hrg ?_ ?_)
    · intro hc0 hl0
      have hso := sortNames w.heap.size _ l hS prefx ss hmet.1 (fun s => by rw [hmet.2 s]; simp [hl0]) wr hrow (by omega)
      go_wp2_with (go_at_call 84; refine hso.mono ?_; rintro e w' ⟨rfl, hrow2, hg2⟩)
      go_ret
      exact ⟨_, rfl, hrow2, hb.grown hg2 hb.size (fun k e => (hrow.lt k e).1)⟩
    · intro x b kl yd yp w1 cnt1 hkey hlk hv hat hrg1 hlt hg1 hs1 hen
      obtain ⟨rfl, hxs⟩ := keyS hkey
      obtain ⟨hx, rfl⟩ := outer_step hhas hat0 hat hv
      have hb1 := hb.grown hg1 hb.size (fun j hj => by cases hj; exact Nat.le_refl _)
      have hrow1 := hrow.kept hg1 (.inr (row_ne_iter hrow hrg).symm)
      have hsz1 : w.heap.size < w1.heap.size := by have := hrg1.lt; exact this
      have HL : Hid (wr.rangeLeft M w.heap.size = cnt) := hrg.left_eq
      have hpre := fun W => hasPrefix_any x prefx W hxs hp
      have HY : Hid (nameIn l prefx x → MetN l prefx (fun q => left q && !q.sameKey (keyL x)) (ss ++ [x])) := fun h => hmet.yes hx hlk h
      have HN : Hid (¬ nameIn l prefx x → MetN l prefx (fun q => left q && !q.sameKey (keyL x)) ss) := fun h => hmet.no h
      have hsh := HSH.out w1 hb1 x hxs
      clear hs1 hg1 hrg hmet hlk hx hat hv hkey hrow hb hhas hat0 HSH hown hDn
      have hss : ss.length ≤ 100000 := by omega
      cases hbg : beginsB x prefx
      · rw [hbg] at hpre
        go_wp2_with (go_at_call 83; refine (hpre _).mono ?_; rintro e w' ⟨rfl, rfl⟩)
        go_roundw
        case rel => exact ⟨_, cnt1, ss, oa, ocap, rfl, hrg1, HN.out (fun h => by rw [h.1] at hbg; cases hbg), by omega, hrow1, hb1, hsz1⟩
        case measure => rw [hrg1.left_eq, HL.out]; exact hlt
      · rw [hbg] at hpre
        cases hfl : decide (0 < (fieldsL l x).length)
        · rw [hfl] at hsh
          go_wp2_with (first | (go_at_call 83; refine (hpre _).mono ?_; rintro e w' ⟨rfl, rfl⟩) | (go_at_call 60; refine hsh.mono ?_; rintro e w2 ⟨rfl, hb2⟩))
          have hg2 := below_grown hb2
          have hrg2 := hrg1.kept hg2 (by simp) (by simp)
          go_roundw
          case rel => exact ⟨_, cnt1, ss, oa, ocap, rfl, hrg2, HN.out (fun h => by rw [decide_eq_true h.2] at hfl; cases hfl), by omega, hrow1.kept hg2 (by cases oa <;> simp [Value.ownBlock]), hb1.trans (hb2.mono hb1.size), Nat.lt_of_lt_of_le hsz1 hb2.size⟩
          case measure => rw [hrg2.left_eq, HL.out]; exact hlt
        · rw [hfl] at hsh
          have hnm : nameIn l prefx x := ⟨hbg, of_decide_eq_true hfl⟩
          go_wp2_with (first | (go_at_call 83; refine (hpre _).mono ?_; rintro e w' ⟨rfl, rfl⟩) | (go_at_call 60; refine hsh.mono ?_; rintro e w2 ⟨rfl, hb2⟩; have hrow2 : w2.ownsRow w.heap.size 9 1 (.slice oa ss.length ocap) ss.length (ss.map Value.string) := hrow1.kept (below_grown hb2) (by cases oa <;> simp [Value.ownBlock]); have hsz2 := Nat.lt_of_lt_of_le hsz1 hb2.size) | (at_builtin; refine wpList_append_own _ rfl _ _ 52 rfl w.heap.size 9 i0 _ 1 16 Tryz.underlying52 hti hz0 hz1 hz2 rfl (by decide) (.slice oa ss.length ocap) ss.length (ss.map Value.string) rfl (hrow2.alloc _) ⟨w2.heap.size, 0, none⟩ 1 1 [.string x] rfl rfl (news_new _ [.string x] _) (text_one x) (by unfold maxLen; omega) (by omega) (by simp; omega) ?_; intro v' w3 hown' hgrow _))
          obtain ⟨na, ncap, rfl⟩ := ownsRow_shape hown'
          have hg2 := below_grown hb2
          have hrg2 := (hrg1.kept hg2 (by simp) (by simp)).alloc (.cells #[.string x] 9)
          have hrowA := hrow2.alloc (.cells #[.string x] 9)
          have hrg3 := hrg2.kept hgrow (row_ne_low hrowA hML) (row_ne_iter hrowA hrg2)
          have hbb := hb1.trans (hb2.mono hb1.size)
          have hb3 : Below w.heap.size w w3 := (hbb.alloc hbb.size _).grown hgrow (by have := hbb.size; simp; omega) (fun k e => (hrowA.lt k e).1)
          have hs3 : w.heap.size < w3.heap.size := by have := hgrow.size; simp at this; omega
          have hrow3 := row_text hown'
          refine ⟨⟨_, cnt1, ss ++ [x], na, ncap, by simp, hrg3, HY.out hnm, by simp; omega, ?_, hb3, hs3⟩, ?_⟩
          · rw [List.length_append, List.length_singleton] at hrow3 ⊢; exact hrow3
          · rw [hrg3.left_eq, HL.out]; exact hlt

theorem names_nil (prefx : ByteArray) : namesL [] prefx = [] := rfl

/-- (*Book).Names -/
theorem namesB_any (p o M n : Nat) (v : Value) (nb : ByteArray → Nat) (l : List Reg) (prefx : ByteArray) (w : World) (hc : w.cell? ⟨p, o, none⟩ = some v) (hB : BookAt w v M nb l n) (hS : SortedB l) (hp : prefx.size ≤ maxLen) (hn : n ≤ 100000) :
    Calls Tryz.prog 67 #[.pointer (some ⟨p, o, none⟩), .string prefx] w fun e w' => ∃ rv, e = .returned rv ∧ w'.ownsRow w.heap.size 9 1 rv (namesL l prefx).length ((namesL l prefx).map Value.string) ∧ Below w.heap.size w w' := by
  rcases hB with ⟨rfl, rfl⟩ | ⟨rfl, hM⟩
  · refine (namesB_nil p o prefx w hc).mono ?_
    rintro e w' ⟨rfl, hb⟩
    exact ⟨_, rfl, World.ownsRow_nil _ _ _ _, hb⟩
  · exact namesB_map p o M n nb l prefx w hc hM hS hp hn

set_option maxHeartbeats 1000000 in
/-- (*Replica).Names -/
theorem namesC_any (p M n : Nat) (v : Value) (nb : ByteArray → Nat) (l : List Reg) (prefx : ByteArray) (w : World) (hc : w.cell? ⟨p, 1, none⟩ = some v) (hB : BookAt w v M nb l n) (hS : SortedB l) (hp : prefx.size ≤ maxLen) (hn : n ≤ 100000) :
    Calls Tryz.prog 45 #[.pointer (some ⟨p, 0, none⟩), .string prefx] w fun e w' => ∃ rv, e = .returned rv ∧ w'.ownsRow w.heap.size 9 1 rv (namesL l prefx).length ((namesL l prefx).map Value.string) ∧ Below w.heap.size w w' := by
  have h := namesB_any p 1 M n v nb l prefx w hc hB hS hp hn
  go_enter Tryz.func45, Tryz.ntmps45
  go_wp2_with (first | (go_at_call 56; refine (made_any p _).mono ?_; rintro e w' ⟨rfl, rfl⟩) | (go_at_call 67; refine h.mono ?_; rintro e w' ⟨rv, rfl, hr⟩))
  go_ret
  exact ⟨rv, rfl, hr⟩
end Go.Proofs.YtdfafhclhfijnaaGreatDoor
