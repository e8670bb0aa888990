import Derived.Test.YtjhlijobdihplaaGreatDoorM06
import Derived.Sort.KeysCollected
import Derived.Sort.OwnSorted
import Derived.Shelf.Sort.Plain
import Derived.Shelf.Slices.In.SortNone
import Derived.Test.YtjhlijobdihplaaGreatDoorM09
namespace Go.Proofs.YtjhlijobdihplaaGreatDoor
open Go.RowKit

/-- the name of a contact that shows and begins so -/
def nameIn (l : List Reg) (pre : ByteArray) (s : ByteArray) : Prop := beginsB s pre = true ∧ 0 < (fieldsL l s).length

theorem ltS_irrefl (a : ByteArray) : ltS a a = false := bl_irrefl _
theorem ltS_trans {a b c : ByteArray} (h1 : ltS a b = true) (h2 : ltS b c = true) : ltS a c = true := bl_trans _ _ _ h1 h2
theorem ltS_total {a b : ByteArray} (h : a ≠ b) (h2 : ltS a b = false) : ltS b a = true := bl_total _ _ (fun e => h (toList_inj e)) h2

theorem ahead_name {a b : Reg} (h : aheadB a b = true) : a.n = b.n ∨ ltS a.n b.n = true := by
  unfold aheadB at h
  cases he : eqS a.n b.n
  · rw [he] at h; exact .inr (by simpa using h)
  · exact .inl (eqS_iff.1 he)

theorem lastS_snoc (out : List ByteArray) (s : ByteArray) : lastS (out ++ [s]) = s := by simp [lastS, str]

/-- what Names has when it has come to k -/
theorem names_inv (l : List Reg) (hs : SortedB l) (pre : ByteArray) : ∀ k, k ≤ l.length →
    (namesTo l pre (l.take k)).Pairwise (fun a b => ltS a b = true) ∧ (∀ s, s ∈ namesTo l pre (l.take k) ↔ nameIn l pre s ∧ ∃ y ∈ l.take k, y.n = s)
  | 0, _ => by simp [namesTo]
  | k + 1, hk => by
    have hlt : k < l.length := by omega
    obtain ⟨ih1, ih2⟩ := names_inv l hs pre k (by omega)
    rw [namesTo_succ l pre k hlt]
    have htk := take_reg l k hlt
    obtain ⟨out, ho⟩ : ∃ out, namesTo l pre (l.take k) = out := ⟨_, rfl⟩
    rw [ho] at ih1 ih2 ⊢
    obtain ⟨y, hy⟩ : ∃ y, reg l k = y := ⟨_, rfl⟩
    rw [hy] at htk ⊢
    have hpre : ∀ z ∈ l.take k, aheadB z y = true := by
      have h1 : (l.take (k + 1)).Pairwise (fun a b => aheadB a b = true) := List.Pairwise.sublist (List.take_sublist _ _) hs
      rw [htk, List.pairwise_append] at h1
      exact fun z hz => h1.2.2 z hz y (by simp)
    have hle : ∀ s ∈ out, s = y.n ∨ ltS s y.n = true := fun s hm => by
      obtain ⟨_, z, hz, e⟩ := (ih2 s).1 hm
      rw [← e]; exact ahead_name (hpre z hz)
    have hmem : ∀ s, (nameIn l pre s ∧ ∃ z ∈ l.take (k + 1), z.n = s) ↔ (s ∈ out ∨ (nameIn l pre s ∧ s = y.n)) := fun s => by
      rw [htk, ih2 s]
      constructor
      · rintro ⟨h1, z, hz, e⟩
        rcases List.mem_append.1 hz with h | h
        · exact .inl ⟨h1, z, h, e⟩
        · simp at h; subst h; exact .inr ⟨h1, e.symm⟩
      · rintro (⟨h1, z, hz, e⟩ | ⟨h1, e⟩)
        · exact ⟨h1, z, List.mem_append_left _ hz, e⟩
        · exact ⟨h1, y, by simp, e.symm⟩
    unfold namesStep
    by_cases hc : nameIn l pre y.n
    · have hb : beginsB y.n pre = true := hc.1
      have hf : decide (0 < (fieldsL l y.n).length) = true := decide_eq_true hc.2
      rw [hb, hf]
      simp only [Bool.true_and]
      cases hnew : nameNewB out y.n
      · -- it is the last already
        have hin : y.n ∈ out := by
          unfold nameNewB at hnew
          simp only [Bool.or_eq_false_iff, Bool.not_eq_false', beq_eq_false_iff_ne] at hnew
          have e := eqS_iff.1 hnew.2
          rw [← e, lastS, str]
          have : out.length - 1 < out.length := by have := hnew.1; omega
          rw [List.getD_eq_getElem?_getD, List.getElem?_eq_getElem this]
          exact List.getElem_mem this
        simp only [Bool.false_eq_true, if_false]
        refine ⟨ih1, fun s => ?_⟩
        rw [hmem s]
        constructor
        · exact .inl
        · rintro (h | ⟨_, e⟩)
          · exact h
          · rw [e]; exact hin
      · simp only [if_true]
        have hlast : ∀ s ∈ out, ltS s y.n = true := by
          intro s hm
          rcases hle s hm with e | e
          · -- s = y.n: then it is the last
            exfalso
            have h0 : out ≠ [] := by intro h; rw [h] at hm; simp at hm
            obtain ⟨o2, t, rfl⟩ : ∃ o2 t, out = o2 ++ [t] := ⟨out.dropLast, out.getLast h0, (List.dropLast_concat_getLast h0).symm⟩
            unfold nameNewB at hnew
            rw [lastS_snoc] at hnew
            simp at hnew
            have hne : t ≠ y.n := eqS_no.1 hnew
            rcases List.mem_append.1 hm with h | h
            · have h1 := (List.pairwise_append.1 ih1).2.2 s h t (by simp)
              rcases hle t (by simp) with e2 | e2
              · exact hne e2
              · have := ltS_trans h1 e2
                rw [e, ltS_irrefl] at this; cases this
            · simp at h; exact hne (h ▸ e)
          · exact e
        refine ⟨?_, fun s => ?_⟩
        · rw [List.pairwise_append]
          exact ⟨ih1, by simp, fun a ha b hb2 => by simp at hb2; subst hb2; exact hlast a ha⟩
        · rw [hmem s, List.mem_append, List.mem_singleton]
          constructor
          · rintro (h | e)
            · exact .inl h
            · exact .inr ⟨by rw [e]; exact hc, e⟩
          · rintro (h | ⟨_, e⟩)
            · exact .inl h
            · exact .inr e
    · have hcond : (beginsB y.n pre && (decide (0 < (fieldsL l y.n).length) && nameNewB out y.n)) = false := by
        cases hb : beginsB y.n pre
        · rfl
        · cases hf : decide (0 < (fieldsL l y.n).length)
          · rfl
          · exact absurd ⟨hb, of_decide_eq_true hf⟩ hc
      rw [hcond]
      simp only [Bool.false_eq_true, if_false]
      refine ⟨ih1, fun s => ?_⟩
      rw [hmem s]
      constructor
      · exact .inl
      · rintro (h | ⟨h, e⟩)
        · exact h
        · rw [e] at h; exact absurd h hc

theorem names_sorted (l : List Reg) (hs : SortedB l) (pre : ByteArray) : (namesL l pre).Pairwise (fun a b => ltS a b = true) := by
  have := (names_inv l hs pre l.length (Nat.le_refl _)).1
  rw [List.take_length] at this; exact this
theorem names_mem (l : List Reg) (hs : SortedB l) (pre : ByteArray) (s : ByteArray) : s ∈ namesL l pre ↔ nameIn l pre s ∧ hasN l s = true := by
  have := (names_inv l hs pre l.length (Nat.le_refl _)).2 s
  rw [List.take_length] at this
  rw [hasN_iff]
  exact this

theorem bl_le : ∀ a b : List UInt8, Op.bytesLess a b = true → a ≤ b
  | [], b, _ => by simp
  | a :: x, [], h => by simp [Op.bytesLess] at h
  | a :: x, b :: y, h => by
    unfold Op.bytesLess at h
    rw [List.cons_le_cons_iff]
    by_cases h1 : a < b
    · exact .inl h1
    · by_cases h2 : a = b
      · subst h2
        simp at h
        exact .inr ⟨rfl, bl_le x y h⟩
      · simp [h1, h2] at h

/-- whatever holds these names, each once, sorts to them -/
theorem names_sort {l : List Reg} (hs : SortedB l) {pre : ByteArray} {ss : List ByteArray} (hnd : ss.Nodup) (hm : ∀ s, s ∈ ss ↔ nameIn l pre s ∧ hasN l s = true) :
    (ss.map fun s => s.data.toList).mergeSort leB = (namesL l pre).map fun s => s.data.toList := by
  have hw := names_sorted l hs pre
  have hnd2 : (namesL l pre).Nodup := hw.imp (fun {a b} h e => by subst e; rw [ltS_irrefl] at h; cases h)
  have hp : ss.Perm (namesL l pre) := (List.perm_ext_iff_of_nodup hnd hnd2).2 fun s => by rw [hm s, names_mem l hs pre s]
  rw [mergeSort_of_perm (hp.map _)]
  refine List.mergeSort_of_pairwise ?_
  rw [List.pairwise_map]
  refine hw.imp fun {a b} h => ?_
  rw [leB, decide_eq_true_eq]
  have := bl_le _ _ h
  rwa [ByteArray.toList_eq, ByteArray.toList_eq] at this
end Go.Proofs.YtjhlijobdihplaaGreatDoor
namespace Go.Proofs.YtjhlijobdihplaaGreatDoor
open Go.RowKit Go.Maps Go.Shelf
open Go.Sort (putRow grow)

theorem str_len (s : ByteArray) : s.toList.length = s.size := by rw [ByteArray.toList_eq]; simp

set_option maxHeartbeats 1000000 in
theorem litePrefix_any (s t : ByteArray) (w : World) (_hs : s.size ≤ maxLen) (_ht : t.size ≤ maxLen) :
    Calls Tryz.prog 98 #[.string s, .string t] w fun e w' => e = .returned (.bool (beginsB s t)) ∧ w' = w := by
  unfold maxLen at _hs _ht
  by_cases h : t.size ≤ s.size
  all_goals
    go_enter Tryz.func98, Tryz.ntmps98
    go_wp2
    go_ret
    exact ⟨ret_bool (by simp [beginsB, eqS, h]), rfl⟩
set_option maxHeartbeats 1000000 in
theorem hasPrefix_any (s t : ByteArray) (w : World) (hs : s.size ≤ maxLen) (ht : t.size ≤ maxLen) :
    Calls Tryz.prog 85 #[.string s, .string t] w fun e w' => e = .returned (.bool (beginsB s t)) ∧ w' = w := by
  have h := litePrefix_any s t w hs ht
  go_enter Tryz.func85, Tryz.ntmps85
  go_wp2_with (go_at_call 98; refine h.mono ?_; rintro e w' ⟨rfl, rfl⟩)
  go_ret
  exact ⟨rfl, rfl⟩

theorem sortStr_nil (cap : Nat) (a : Option Addr) (w : World) : Calls Tryz.prog 86 #[.slice a 0 cap] w fun e w' => e = .returned (.tuple #[]) ∧ w' = w := by
  have h := Any.slices_Sort_string_none Tryz.sortStr a cap w
  change Calls Tryz.prog 86 _ _ _ at h
  exact h

theorem enc_map (ss : List ByteArray) : ss.map Value.string = (ss.map fun s => s.data.toList).map encStr := by
  rw [List.map_map]
  refine List.map_congr_left fun s _ => ?_
  simp [encStr]

/-- slices.Sort of the names that were met -/
theorem sortNames (base : Nat) (rv : Value) (l : List Reg) (hs : SortedB l) (pre : ByteArray) (ss : List ByteArray) (hnd : ss.Nodup) (hm : ∀ s, s ∈ ss ↔ nameIn l pre s ∧ hasN l s = true) (w : World) (h : w.ownsRow base 9 1 rv ss.length (ss.map Value.string)) (hl : ss.length < 1000000) :
    Calls Tryz.prog 86 #[rv] w fun e w' => e = .returned (.tuple #[]) ∧ w'.ownsRow base 9 1 rv (namesL l pre).length ((namesL l pre).map Value.string) ∧ w.grownBy w' rv.ownBlock := by
  have hso := names_sort hs hnd hm
  have hlen : (namesL l pre).length = ss.length := by
    have := congrArg List.length hso
    simpa using this.symm
  rcases h.2 with ⟨rfl, h0⟩ | ⟨g, cap, cur, rfl, hbase, hb, h1, h2, h3, h4⟩
  · have e0 : ss = [] := List.eq_nil_of_length_eq_zero h0
    have e1 : namesL l pre = [] := List.eq_nil_of_length_eq_zero (by rw [hlen, h0])
    refine (sortStr_nil 0 none w).mono ?_
    rintro e w' ⟨rfl, rfl⟩
    rw [e1]
    exact ⟨rfl, World.ownsRow_nil _ _ _ _, ⟨rfl, rfl, rfl, Nat.le_refl _, fun _ _ _ => rfl⟩⟩
  · obtain ⟨bs, hbs⟩ : ∃ bs, (ss.map fun s => s.data.toList) = bs := ⟨_, rfl⟩
    have hbl : bs.length = ss.length := by rw [← hbs]; simp
    rw [enc_map, hbs] at h4
    rw [hbs] at hso
    have hc := Any.slices_Sort_string Tryz.sortStr g 0 cap bs w (holds_of_block hb (by rw [hbl]; simpa using h4)) (Array.getElem?_eq_some_iff.1 hb).1 (by omega)
    change Calls Tryz.prog 86 _ _ _ at hc
    rw [hbl] at hc
    refine hc.mono ?_
    rintro e w' ⟨rfl, nn, os, rfl⟩
    have e2 : (bs.mergeSort fun x y => decide (x ≤ y)) = (namesL l pre).map fun s => s.data.toList := hso
    rw [e2]
    have hl2 : ((namesL l pre).map fun s => s.data.toList).length = bs.length := by rw [List.length_map, hlen, hbl]
    have hres := ownsRow_sorted (n := nn) (os := os) hl2 hbase hb (by omega) h2 h3
    rw [hbl] at hres
    refine ⟨rfl, ?_, grownBy_sorted _⟩
    rw [enc_map, hlen]
    exact hres

/-- what Names has met -/
def MetN (l : List Reg) (pre : ByteArray) (left : Lit → Bool) (ss : List ByteArray) : Prop := ss.Nodup ∧ ∀ s, s ∈ ss ↔ (nameIn l pre s ∧ hasN l s = true) ∧ left (keyL s) = false

theorem MetN.yes {l : List Reg} {pre x : ByteArray} {left : Lit → Bool} {ss : List ByteArray} (h : MetN l pre left ss) (hx : hasN l x = true) (hl : left (keyL x) = true) (hp : nameIn l pre x) : MetN l pre (fun q => left q && !q.sameKey (keyL x)) (ss ++ [x]) := by
  obtain ⟨h1, h2⟩ := h
  have hnot : x ∉ ss := fun hin => by have := ((h2 x).1 hin).2; rw [hl] at this; cases this
  refine ⟨?_, fun s => ?_⟩
  · rw [List.nodup_append]
    exact ⟨h1, by simp, fun a ha b hb e => by simp at hb; subst hb; subst e; exact hnot ha⟩
  · simp only [List.mem_append, List.mem_singleton, Bool.and_eq_false_iff, Bool.not_eq_false']
    rw [h2 s, same_keyL]
    constructor
    · rintro (⟨a, b⟩ | e)
      · exact ⟨a, .inl b⟩
      · rw [e]; exact ⟨⟨hp, hx⟩, .inr rfl⟩
    · rintro ⟨a, b | b⟩
      · exact .inl ⟨a, b⟩
      · exact .inr b
theorem MetN.no {l : List Reg} {pre x : ByteArray} {left : Lit → Bool} {ss : List ByteArray} (h : MetN l pre left ss) (hp : ¬ nameIn l pre x) : MetN l pre (fun q => left q && !q.sameKey (keyL x)) ss := by
  obtain ⟨h1, h2⟩ := h
  refine ⟨h1, fun s => ?_⟩
  simp only [Bool.and_eq_false_iff, Bool.not_eq_false']
  rw [h2 s, same_keyL]
  constructor
  · rintro ⟨a, b⟩; exact ⟨a, .inl b⟩
  · rintro ⟨a, b | b⟩
    · exact ⟨a, b⟩
    · rw [b] at a; exact absurd a.1 hp

set_option maxRecDepth 100000 in
set_option maxHeartbeats 1000000 in
theorem namesB_nil (p o : Nat) (prefx : ByteArray) (w : World) (hc : w.cell? ⟨p, o, none⟩ = some (.map none)) :
    Calls Tryz.prog 69 #[.pointer (some ⟨p, o, none⟩), .string prefx] w fun e w' => e = .returned (.slice none 0 0) ∧ Below w.heap.size w w' := by
  have hrg := run_range_nilMap (P := Tryz.prog) w 104 9 150 Tryz.underlying104
  have hnx : ∀ ty, (Instr.next (.pointer (some ⟨w.heap.size, 0, none⟩)) false ty).run Tryz.prog (w.alloc (.mapIter none 0 #[] 0)) = _ := fun ty => run_next_nilMap w ty 0 0 #[]
  have hso := fun w => sortStr_nil 0 none w
  go_enter Tryz.func69, Tryz.ntmps69
  go_wp2
  refine wp_loop_rounds 1 ?_
  rw [rounds_succ]
  go_wp2_with (go_at_call 86; refine (hso _).mono ?_; rintro e w' ⟨rfl, rfl⟩)
  go_ret
  exact ⟨rfl, (Below.refl _ _).alloc (Nat.le_refl _) _⟩

set_option maxRecDepth 100000 in
set_option maxHeartbeats 2000000 in
theorem namesB_map (p o M n : Nat) (nb : ByteArray → Nat) (l : List Reg) (prefx : ByteArray) (w : World) (hc : w.cell? ⟨p, o, none⟩ = some (.map (some M))) (hM : Maps2 w M nb l n) (hS : SortedB l) (hp : prefx.size ≤ maxLen) (hn : n ≤ 100000) :
    Calls Tryz.prog 69 #[.pointer (some ⟨p, o, none⟩), .string prefx] w fun e w' => ∃ rv, e = .returned rv ∧ w'.ownsRow w.heap.size 9 1 rv (namesL l prefx).length ((namesL l prefx).map Value.string) ∧ Below w.heap.size w w' := by
  have hpl := lt_of_cell hc
  obtain ⟨i0, hti, hz0, hz1, hz2⟩ := info_parts Tryz.infoStr
  obtain ⟨D, hown, hhas, hat0⟩ := hM.1
  have hML := hown.lt
  have hDn := ownsMap_size hown
  go_enter Tryz.func69, Tryz.ntmps69
  go_wp2_with (at_range; refine wpList_range_own _ rfl _ 104 rfl 9 150 strLaw Tryz.underlying104 _ M n _ rfl hown ?_; intro w0 hrg0 hg0 hs0)
  go_frame
  have HSH : Hid (∀ wr, Below w.heap.size w wr → ∀ x : ByteArray, x.size ≤ maxLen → Calls Tryz.prog 62 #[.pointer (some ⟨p, o, none⟩), .string x] wr fun e w' => e = .returned (.bool (decide (0 < (fieldsL l x).length))) ∧ Below wr.heap.size wr w') := fun wr hb x hx =>
    shows_any p o M n (.map (some M)) nb l x wr ((hb.cell (p := ⟨p, o, none⟩) hpl).trans hc) ⟨_, rfl⟩ (BookAt.below (.inr ⟨rfl, hM⟩) hb) hS hx
  clear hM hc
  go_loopw [5] (fun g wr => ∃ (left : Lit → Bool) (cnt : Nat) (ss : List ByteArray) (oa : Option Addr) (ocap : Nat), g = .slice oa ss.length ocap ∧ wr.ranges Tryz.prog 9 Rout M w.heap.size n D left cnt ∧ MetN l prefx left ss ∧ ss.length + cnt ≤ n ∧ wr.ownsRow w.heap.size 9 1 (.slice oa ss.length ocap) ss.length (ss.map Value.string) ∧ Below w.heap.size w wr ∧ w.heap.size < wr.heap.size)
    (fun _ wr => wr.rangeLeft M w.heap.size)
  case atStart =>
    refine ⟨_, _, [], none, 0, rfl, hrg0, ⟨List.nodup_nil, fun s => ⟨fun h => by simp at h, fun h => ?_⟩⟩, by simpa using hDn, World.ownsRow_nil _ _ _ _, (Below.refl _ _).grown hg0 (Nat.le_refl _) (fun j hj => by cases hj), by omega⟩
    have h1 := h.2
    rw [hhas s] at h1
    simp [outerM, h.1.2] at h1
  case round =>
    obtain ⟨left, cnt, ss, oa, ocap, rfl, hrg, hmet, hlen, hrow, hb, hsz⟩ := hrel
    clear hrg0 hg0 hs0
    go_wp2_with (at_next; refine wpList_next_ranges _ rfl _ rfl 9 strLaw Rout Value.string (fun b : Nat => Value.map (some b)) invS invOut M w.heap.size n _ _ _ rfl hrg ?_ ?_)
    · intro hc0 hl0
      have hso := sortNames w.heap.size _ l hS prefx ss hmet.1 (fun s => by rw [hmet.2 s]; simp [hl0]) wr hrow (by omega)
      go_wp2_with (go_at_call 86; refine hso.mono ?_; rintro e w' ⟨rfl, hrow2, hg2⟩)
      go_ret
      exact ⟨_, rfl, hrow2, hb.grown hg2 hb.size (fun k e => (hrow.lt k e).1)⟩
    · intro x b kl yd yp w1 cnt1 hkey hlk hv hat hrg1 hlt hg1 hs1 hen
      obtain ⟨rfl, hxs⟩ := keyS hkey
      obtain ⟨hx, rfl⟩ := outer_step hhas hat0 hat hv
      have hb1 := hb.grown hg1 hb.size (fun j hj => by cases hj; exact Nat.le_refl _)
      have hrow1 := hrow.kept hg1 (.inr (row_ne_iter hrow hrg).symm)
      have hsz1 : w.heap.size < w1.heap.size := by have := hrg1.lt; exact this
      have HL : Hid (wr.rangeLeft M w.heap.size = cnt) := hrg.left_eq
      have hpre := fun W => hasPrefix_any x prefx W hxs hp
      have HY : Hid (nameIn l prefx x → MetN l prefx (fun q => left q && !q.sameKey (keyL x)) (ss ++ [x])) := fun h => hmet.yes hx hlk h
      have HN : Hid (¬ nameIn l prefx x → MetN l prefx (fun q => left q && !q.sameKey (keyL x)) ss) := fun h => hmet.no h
      have hsh := HSH.out w1 hb1 x hxs
      clear hs1 hg1 hrg hmet hlk hx hat hv hkey hrow hb hhas hat0 HSH hown hDn
      have hss : ss.length ≤ 100000 := by omega
      cases hbg : beginsB x prefx
      · rw [hbg] at hpre
        go_wp2_with (go_at_call 85; refine (hpre _).mono ?_; rintro e w' ⟨rfl, rfl⟩)
        go_roundw
        case rel => exact ⟨_, cnt1, ss, oa, ocap, rfl, hrg1, HN.out (fun h => by rw [h.1] at hbg; cases hbg), by omega, hrow1, hb1, hsz1⟩
        case measure => rw [hrg1.left_eq, HL.out]; exact hlt
      · rw [hbg] at hpre
        cases hfl : decide (0 < (fieldsL l x).length)
        · rw [hfl] at hsh
          go_wp2_with (first | (go_at_call 85; refine (hpre _).mono ?_; rintro e w' ⟨rfl, rfl⟩) | (go_at_call 62; refine hsh.mono ?_; rintro e w2 ⟨rfl, hb2⟩))
          have hg2 := below_grown hb2
          have hrg2 := hrg1.kept hg2 (by simp) (by simp)
          go_roundw
          case rel => exact ⟨_, cnt1, ss, oa, ocap, rfl, hrg2, HN.out (fun h => by rw [decide_eq_true h.2] at hfl; cases hfl), by omega, hrow1.kept hg2 (by cases oa <;> simp [Value.ownBlock]), hb1.trans (hb2.mono hb1.size), Nat.lt_of_lt_of_le hsz1 hb2.size⟩
          case measure => rw [hrg2.left_eq, HL.out]; exact hlt
        · rw [hfl] at hsh
          have hnm : nameIn l prefx x := ⟨hbg, of_decide_eq_true hfl⟩
          go_wp2_with (first | (go_at_call 85; refine (hpre _).mono ?_; rintro e w' ⟨rfl, rfl⟩) | (go_at_call 62; refine hsh.mono ?_; rintro e w2 ⟨rfl, hb2⟩; have hrow2 : w2.ownsRow w.heap.size 9 1 (.slice oa ss.length ocap) ss.length (ss.map Value.string) := hrow1.kept (below_grown hb2) (by cases oa <;> simp [Value.ownBlock]); have hsz2 := Nat.lt_of_lt_of_le hsz1 hb2.size) | (at_builtin; refine wpList_append_own _ rfl _ _ 52 rfl w.heap.size 9 i0 _ 1 16 Tryz.underlying52 hti hz0 hz1 hz2 rfl (by decide) (.slice oa ss.length ocap) ss.length (ss.map Value.string) rfl (hrow2.alloc _) ⟨w2.heap.size, 0, none⟩ 1 1 [.string x] rfl rfl (news_new _ [.string x] _) (text_one x) (by unfold maxLen; omega) (by omega) (by simp; omega) ?_; intro v' w3 hown' hgrow _))
          obtain ⟨na, ncap, rfl⟩ := ownsRow_shape hown'
          have hg2 := below_grown hb2
          have hrg2 := (hrg1.kept hg2 (by simp) (by simp)).alloc (.cells #[.string x] 9)
          have hrowA := hrow2.alloc (.cells #[.string x] 9)
          have hrg3 := hrg2.kept hgrow (row_ne_low hrowA hML) (row_ne_iter hrowA hrg2)
          have hbb := hb1.trans (hb2.mono hb1.size)
          have hb3 : Below w.heap.size w w3 := (hbb.alloc hbb.size _).grown hgrow (by have := hbb.size; simp; omega) (fun k e => (hrowA.lt k e).1)
          have hs3 : w.heap.size < w3.heap.size := by have := hgrow.size; simp at this; omega
          have hrow3 := row_text hown'
          refine ⟨⟨_, cnt1, ss ++ [x], na, ncap, by simp, hrg3, HY.out hnm, by simp; omega, ?_, hb3, hs3⟩, ?_⟩
          · rw [List.length_append, List.length_singleton] at hrow3 ⊢; exact hrow3
          · rw [hrg3.left_eq, HL.out]; exact hlt

theorem names_nil (prefx : ByteArray) : namesL [] prefx = [] := rfl

/-- (*Book).Names -/
theorem namesB_any (p o M n : Nat) (v : Value) (nb : ByteArray → Nat) (l : List Reg) (prefx : ByteArray) (w : World) (hc : w.cell? ⟨p, o, none⟩ = some v) (hB : BookAt w v M nb l n) (hS : SortedB l) (hp : prefx.size ≤ maxLen) (hn : n ≤ 100000) :
    Calls Tryz.prog 69 #[.pointer (some ⟨p, o, none⟩), .string prefx] w fun e w' => ∃ rv, e = .returned rv ∧ w'.ownsRow w.heap.size 9 1 rv (namesL l prefx).length ((namesL l prefx).map Value.string) ∧ Below w.heap.size w w' := by
  rcases hB with ⟨rfl, rfl⟩ | ⟨rfl, hM⟩
  · refine (namesB_nil p o prefx w hc).mono ?_
    rintro e w' ⟨rfl, hb⟩
    exact ⟨_, rfl, World.ownsRow_nil _ _ _ _, hb⟩
  · exact namesB_map p o M n nb l prefx w hc hM hS hp hn

set_option maxHeartbeats 1000000 in
/-- (*Replica).Names -/
theorem namesC_any (p M n : Nat) (v : Value) (nb : ByteArray → Nat) (l : List Reg) (prefx : ByteArray) (w : World) (hc : w.cell? ⟨p, 1, none⟩ = some v) (hB : BookAt w v M nb l n) (hS : SortedB l) (hp : prefx.size ≤ maxLen) (hn : n ≤ 100000) :
    Calls Tryz.prog 47 #[.pointer (some ⟨p, 0, none⟩), .string prefx] w fun e w' => ∃ rv, e = .returned rv ∧ w'.ownsRow w.heap.size 9 1 rv (namesL l prefx).length ((namesL l prefx).map Value.string) ∧ Below w.heap.size w w' := by
  have h := namesB_any p 1 M n v nb l prefx w hc hB hS hp hn
  go_enter Tryz.func47, Tryz.ntmps47
  go_wp2_with (first | (go_at_call 58; refine (made_any p _).mono ?_; rintro e w' ⟨rfl, rfl⟩) | (go_at_call 69; refine h.mono ?_; rintro e w' ⟨rv, rfl, hr⟩))
  go_ret
  exact ⟨rv, rfl, hr⟩
end Go.Proofs.YtjhlijobdihplaaGreatDoor
namespace Go.Proofs.YtjhlijobdihplaaGreatDoor
open Go.RowKit Go.Maps Go.Shelf

theorem texts_one (T : List ByteArray) : ∀ u ∈ T.map Value.string, u.oneCell' = true := by
  intro u hu
  obtain ⟨y, _, rfl⟩ := List.mem_map.1 hu
  rfl

set_option maxRecDepth 100000 in
set_option maxHeartbeats 2000000 in
theorem namesP_any (pw g i cap len p n M : Nat) (v : Value) (nb : ByteArray → Nat) (l : List Reg) (prefx : ByteArray) (w : World) (hw : w.cell? ⟨pw, 0, none⟩ = some (.slice (some ⟨g, 0, none⟩) len cap)) (hi : i < len) (_hlen : len ≤ 100000) (hp : w.cell? ⟨g, i, none⟩ = some (.pointer (some ⟨p, 0, none⟩)))
    (hc : w.cell? ⟨p, 1, none⟩ = some v) (hB : BookAt w v M nb l n) (hS : SortedB l) (hs : prefx.size ≤ maxLen) (hn : n ≤ 100000) (hll : l.length ≤ 100000) :
    Calls Tryz.prog 21 #[.pointer (some ⟨pw, 0, none⟩), .int .i64 i, .string prefx] w
      fun e w' => ∃ rv, e = .returned rv ∧ w'.ownsRow w.heap.size 9 1 rv (namesL l prefx).length ((namesL l prefx).map Value.string) ∧ Below w.heap.size w w' := by
  have h45 := namesC_any p M n v nb l prefx w hc hB hS hs hn
  have hnl : (namesL l prefx).length ≤ 100000 := by
    have := namesTo_len l prefx l []
    simp at this
    exact Nat.le_trans this hll
  obtain ⟨i0, hti, hz0, hz1, hz2⟩ := info_parts Tryz.infoStr
  obtain ⟨T, hT⟩ : ∃ T, namesL l prefx = T := ⟨_, rfl⟩
  rw [hT] at h45 hnl ⊢
  clear hB hS hT
  go_enter Tryz.func21, Tryz.ntmps21
  go_wp2_with (first | (go_at_call 47; refine h45.mono ?_; clear h45; rintro e w1 ⟨rv, rfl, hrow, hb⟩; rcases hrow.2 with ⟨rfl, h0⟩ | ⟨g1, cap1, cur, rfl, hrest⟩) | (at_builtin; refine wpList_append_own _ rfl _ _ 52 rfl w1.heap.size 9 i0 _ 1 16 Tryz.underlying52 hti hz0 hz1 hz2 rfl (by decide) (.slice none 0 0) 0 [] rfl (World.ownsRow_nil _ _ _ _) ⟨g1, 0, none⟩ T.length cap1 (T.map Value.string) rfl (by simp) (hrow.cells rfl) (texts_one T) (by unfold maxLen; omega) (by omega) (Nat.le_refl _) ?_; intro v' w2 hown' hgrow _))
  · have e0 : T = [] := List.eq_nil_of_length_eq_zero h0
    subst e0
    refine wp_loop_rounds 1 ?_
    rw [rounds_succ]
    go_wp2
    go_ret
    exact ⟨_, rfl, hrow, hb⟩
  · have hown2 : w2.ownsRow w1.heap.size 9 1 v' T.length (T.map Value.string) := by simpa using hown'
    have hg1 := hrow.lt g1 rfl
    have hrow2 := hrow.kept hgrow (.inr (by simp [Value.ownBlock]))
    have hb2 : Below w.heap.size w w2 := hb.grown hgrow hb.size (fun k e => by simp [Value.ownBlock] at e)
    clear hown' hgrow hrow hb hrest
    obtain ⟨va, vc, rfl⟩ := ownsRow_shape hown2
    go_loopg [23] T.length (fun q s wr => ∃ (k : Nat) (xs : List Value), q + k = T.length ∧ s = .int .i64 k ∧ wr.ownsRow w1.heap.size 9 1 (.slice va T.length vc) T.length (T.map Value.string) ∧ wr.ownsRow w.heap.size 9 1 (.slice (some ⟨g1, 0, none⟩) T.length cap1) T.length xs ∧ Below w.heap.size w wr)
    case atStart => exact ⟨0, _, by omega, rfl, hown2, hrow2, hb2⟩
    case round =>
      obtain ⟨k, xs, hq, rfl, hr1, hr2, hb3⟩ := hrel
      clear hrow2 hown2 hb2 hw hp hc
      by_cases hlt : k < T.length
      · have hxl := hr2.1
        obtain ⟨u0, c0⟩ : ∃ u0, wr.cell? ⟨g1, k, none⟩ = some u0 := ⟨xs[k]'(by omega), by rw [hr2.cellAt k (by omega), List.getElem?_eq_getElem]⟩
        have f0 := hr2.frozenAt k
        obtain ⟨hr3, hg3⟩ := hr2.stored k (.string ⟨#[116, 104, 101, 32, 99, 97, 108, 108, 101, 114, 39, 115]⟩)
        have hr4 := hr1.kept hg3 (.inr (fun e => by have := (hr1.lt g1 e).1; omega))
        have hb4 := hb3.grown hg3 hb3.size (fun j e => by cases e; exact hg1.1)
        have HH : Hid ((wr.setCell ⟨g1, k, none⟩ (.string ⟨#[116, 104, 101, 32, 99, 97, 108, 108, 101, 114, 39, 115]⟩)).ownsRow w1.heap.size 9 1 (.slice va T.length vc) T.length (T.map Value.string) ∧ (∃ ys, (wr.setCell ⟨g1, k, none⟩ (.string ⟨#[116, 104, 101, 32, 99, 97, 108, 108, 101, 114, 39, 115]⟩)).ownsRow w.heap.size 9 1 (.slice (some ⟨g1, 0, none⟩) T.length cap1) T.length ys) ∧ Below w.heap.size w (wr.setCell ⟨g1, k, none⟩ (.string ⟨#[116, 104, 101, 32, 99, 97, 108, 108, 101, 114, 39, 115]⟩))) := ⟨hr4, ⟨_, hr3⟩, hb4⟩
        clear hr1 hr2 hr3 hr4 hb3 hb4 hg3 hxl
        go_wp2
        obtain ⟨a1, ⟨ys, a2⟩, a3⟩ := HH.out
        go_roundg (gk - 1)
        case measure => omega
        case rel => exact ⟨k + 1, ys, by omega, by go_num, a1, a2, a3⟩
      · go_wp2
        go_ret
        exact ⟨_, rfl, ownsRow_base hr1 (by omega), hb3⟩
end Go.Proofs.YtjhlijobdihplaaGreatDoor
