import Derived.Test.YtdfafhclhfijnaaGreatDoorI2
import Derived.Sort.KeysCollected
namespace Go.Proofs.YtdfafhclhfijnaaGreatDoor
open Go.RowKit

/-- the name of a contact that shows and begins so -/
def nameIn (l : List Reg) (pre : ByteArray) (s : ByteArray) : Prop := beginsB s pre = true ∧ 0 < (fieldsL l s).length

theorem ltS_irrefl (a : ByteArray) : ltS a a = false := bl_irrefl _
theorem ltS_trans {a b c : ByteArray} (h1 : ltS a b = true) (h2 : ltS b c = true) : ltS a c = true := bl_trans _ _ _ h1 h2
theorem ltS_total {a b : ByteArray} (h : a ≠ b) (h2 : ltS a b = false) : ltS b a = true := bl_total _ _ (fun e => h (toList_inj e)) h2

theorem ahead_name {a b : Reg} (h : aheadB a b = true) : a.n = b.n ∨ ltS a.n b.n = true := by
  unfold aheadB at h
  cases he : eqS a.n b.n
  · rw [he] at h; exact .inr (by simpa using h)
  · exact .inl (eqS_iff.1 he)

theorem lastS_snoc (out : List ByteArray) (s : ByteArray) : lastS (out ++ [s]) = s := by simp [lastS, str]

/-- what Names has when it has come to k -/
theorem names_inv (l : List Reg) (hs : SortedB l) (pre : ByteArray) : ∀ k, k ≤ l.length →
    (namesTo l pre (l.take k)).Pairwise (fun a b => ltS a b = true) ∧ (∀ s, s ∈ namesTo l pre (l.take k) ↔ nameIn l pre s ∧ ∃ y ∈ l.take k, y.n = s)
  | 0, _ => by simp [namesTo]
  | k + 1, hk => by
    have hlt : k < l.length := by omega
    obtain ⟨ih1, ih2⟩ := names_inv l hs pre k (by omega)
    rw [namesTo_succ l pre k hlt]
    have htk := take_reg l k hlt
    obtain ⟨out, ho⟩ : ∃ out, namesTo l pre (l.take k) = out := ⟨_, rfl⟩
    rw [ho] at ih1 ih2 ⊢
    obtain ⟨y, hy⟩ : ∃ y, reg l k = y := ⟨_, rfl⟩
    rw [hy] at htk ⊢
    have hpre : ∀ z ∈ l.take k, aheadB z y = true := by
      have h1 : (l.take (k + 1)).Pairwise (fun a b => aheadB a b = true) := List.Pairwise.sublist (List.take_sublist _ _) hs
      rw [htk, List.pairwise_append] at h1
      exact fun z hz => h1.2.2 z hz y (by simp)
    have hle : ∀ s ∈ out, s = y.n ∨ ltS s y.n = true := fun s hm => by
      obtain ⟨_, z, hz, e⟩ := (ih2 s).1 hm
      rw [← e]; exact ahead_name (hpre z hz)
    have hmem : ∀ s, (nameIn l pre s ∧ ∃ z ∈ l.take (k + 1), z.n = s) ↔ (s ∈ out ∨ (nameIn l pre s ∧ s = y.n)) := fun s => by
      rw [htk, ih2 s]
      constructor
      · rintro ⟨h1, z, hz, e⟩
        rcases List.mem_append.1 hz with h | h
        · exact .inl ⟨h1, z, h, e⟩
        · simp at h; subst h; exact .inr ⟨h1, e.symm⟩
      · rintro (⟨h1, z, hz, e⟩ | ⟨h1, e⟩)
        · exact ⟨h1, z, List.mem_append_left _ hz, e⟩
        · exact ⟨h1, y, by simp, e.symm⟩
    unfold namesStep
    by_cases hc : nameIn l pre y.n
    · have hb : beginsB y.n pre = true := hc.1
      have hf : decide (0 < (fieldsL l y.n).length) = true := decide_eq_true hc.2
      rw [hb, hf]
      simp only [Bool.true_and]
      cases hnew : nameNewB out y.n
      · -- it is the last already
        have hin : y.n ∈ out := by
          unfold nameNewB at hnew
          simp only [Bool.or_eq_false_iff, Bool.not_eq_false', beq_eq_false_iff_ne] at hnew
          have e := eqS_iff.1 hnew.2
          rw [← e, lastS, str]
          have : out.length - 1 < out.length := by have := hnew.1; omega
          rw [List.getD_eq_getElem?_getD, List.getElem?_eq_getElem this]
          exact List.getElem_mem this
        simp only [Bool.false_eq_true, if_false]
        refine ⟨ih1, fun s => ?_⟩
        rw [hmem s]
        constructor
        · exact .inl
        · rintro (h | ⟨_, e⟩)
          · exact h
          · rw [e]; exact hin
      · simp only [if_true]
        have hlast : ∀ s ∈ out, ltS s y.n = true := by
          intro s hm
          rcases hle s hm with e | e
          · -- s = y.n: then it is the last
            exfalso
            have h0 : out ≠ [] := by intro h; rw [h] at hm; simp at hm
            obtain ⟨o2, t, rfl⟩ : ∃ o2 t, out = o2 ++ [t] := ⟨out.dropLast, out.getLast h0, (List.dropLast_concat_getLast h0).symm⟩
            unfold nameNewB at hnew
            rw [lastS_snoc] at hnew
            simp at hnew
            have hne : t ≠ y.n := eqS_no.1 hnew
            rcases List.mem_append.1 hm with h | h
            · have h1 := (List.pairwise_append.1 ih1).2.2 s h t (by simp)
              rcases hle t (by simp) with e2 | e2
              · exact hne e2
              · have := ltS_trans h1 e2
                rw [e, ltS_irrefl] at this; cases this
            · simp at h; exact hne (h ▸ e)
          · exact e
        refine ⟨?_, fun s => ?_⟩
        · rw [List.pairwise_append]
          exact ⟨ih1, by simp, fun a ha b hb2 => by simp at hb2; subst hb2; exact hlast a ha⟩
        · rw [hmem s, List.mem_append, List.mem_singleton]
          constructor
          · rintro (h | e)
            · exact .inl h
            · exact .inr ⟨by rw [e]; exact hc, e⟩
          · rintro (h | ⟨_, e⟩)
            · exact .inl h
            · exact .inr e
    · have hcond : (beginsB y.n pre && (decide (0 < (fieldsL l y.n).length) && nameNewB out y.n)) = false := by
        cases hb : beginsB y.n pre
        · rfl
        · cases hf : decide (0 < (fieldsL l y.n).length)
          · rfl
          · exact absurd ⟨hb, of_decide_eq_true hf⟩ hc
      rw [hcond]
      simp only [Bool.false_eq_true, if_false]
      refine ⟨ih1, fun s => ?_⟩
      rw [hmem s]
      constructor
      · exact .inl
      · rintro (h | ⟨h, e⟩)
        · exact h
        · rw [e] at h; exact absurd h hc

theorem names_sorted (l : List Reg) (hs : SortedB l) (pre : ByteArray) : (namesL l pre).Pairwise (fun a b => ltS a b = true) := by
  have := (names_inv l hs pre l.length (Nat.le_refl _)).1
  rw [List.take_length] at this; exact this
theorem names_mem (l : List Reg) (hs : SortedB l) (pre : ByteArray) (s : ByteArray) : s ∈ namesL l pre ↔ nameIn l pre s ∧ hasN l s = true := by
  have := (names_inv l hs pre l.length (Nat.le_refl _)).2 s
  rw [List.take_length] at this
  rw [hasN_iff]
  exact this

theorem bl_le : ∀ a b : List UInt8, Op.bytesLess a b = true → a ≤ b
  | [], b, _ => by simp
  | a :: x, [], h => by simp [Op.bytesLess] at h
  | a :: x, b :: y, h => by
    unfold Op.bytesLess at h
    rw [List.cons_le_cons_iff]
    by_cases h1 : a < b
    · exact .inl h1
    · by_cases h2 : a = b
      · subst h2
        simp at h
        exact .inr ⟨rfl, bl_le x y h⟩
      · simp [h1, h2] at h

/-- whatever holds these names, each once, sorts to them -/
theorem names_sort {l : List Reg} (hs : SortedB l) {pre : ByteArray} {ss : List ByteArray} (hnd : ss.Nodup) (hm : ∀ s, s ∈ ss ↔ nameIn l pre s ∧ hasN l s = true) :
    (ss.map fun s => s.data.toList).mergeSort leB = (namesL l pre).map fun s => s.data.toList := by
  have hw := names_sorted l hs pre
  have hnd2 : (namesL l pre).Nodup := hw.imp (fun {a b} h e => by subst e; rw [ltS_irrefl] at h; cases h)
  have hp : ss.Perm (namesL l pre) := (List.perm_ext_iff_of_nodup hnd hnd2).2 fun s => by rw [hm s, names_mem l hs pre s]
  rw [mergeSort_of_perm (hp.map _)]
  refine List.mergeSort_of_pairwise ?_
  rw [List.pairwise_map]
  refine hw.imp fun {a b} h => ?_
  rw [leB, decide_eq_true_eq]
  have := bl_le _ _ h
  rwa [ByteArray.toList_eq, ByteArray.toList_eq] at this
end Go.Proofs.YtdfafhclhfijnaaGreatDoor
