import Derived.Test.YtdfafhclhfijnaaGreatDoorR6
namespace Go.Proofs.YtdfafhclhfijnaaGreatDoor
open Go.RowKit

/-! ### the order of texts, and of keys -/
theorem bl_irrefl : ∀ a : List UInt8, Op.bytesLess a a = false
  | [] => rfl
  | a :: x => by simp [Op.bytesLess, bl_irrefl x, UInt8.lt_irrefl]
theorem bl_trans : ∀ a b c : List UInt8, Op.bytesLess a b = true → Op.bytesLess b c = true → Op.bytesLess a c = true
  | [], [], c, h, _ => by simp [Op.bytesLess] at h
  | [], b :: y, [], _, h => by simp [Op.bytesLess] at h
  | [], b :: y, c :: z, _, _ => by simp [Op.bytesLess]
  | a :: x, [], c, h, _ => by simp [Op.bytesLess] at h
  | a :: x, b :: y, [], _, h => by simp [Op.bytesLess] at h
  | a :: x, b :: y, c :: z, h1, h2 => by
    simp only [Op.bytesLess, Bool.or_eq_true, Bool.and_eq_true, decide_eq_true_eq, beq_iff_eq] at h1 h2 ⊢
    rcases h1 with h1 | ⟨rfl, h1⟩
    · rcases h2 with h2 | ⟨rfl, h2⟩
      · exact .inl (UInt8.lt_trans h1 h2)
      · exact .inl h1
    · rcases h2 with h2 | ⟨rfl, h2⟩
      · exact .inl h2
      · exact .inr ⟨rfl, bl_trans x y z h1 h2⟩
theorem bl_total : ∀ a b : List UInt8, a ≠ b → Op.bytesLess a b = false → Op.bytesLess b a = true
  | [], [], h, _ => absurd rfl h
  | [], b :: y, _, h => by simp [Op.bytesLess] at h
  | a :: x, [], _, _ => by simp [Op.bytesLess]
  | a :: x, b :: y, hne, h => by
    simp only [Op.bytesLess, Bool.or_eq_false_iff, Bool.and_eq_false_iff, decide_eq_false_iff_not, beq_eq_false_iff_ne] at h
    simp only [Op.bytesLess, Bool.or_eq_true, Bool.and_eq_true, decide_eq_true_eq, beq_iff_eq]
    obtain ⟨h1, h2⟩ := h
    by_cases e : a = b
    · subst e
      refine .inr ⟨rfl, bl_total x y (fun e => hne (by rw [e])) ?_⟩
      rcases h2 with h2 | h2
      · exact absurd rfl h2
      · exact h2
    · left
      rw [UInt8.lt_iff_toNat_lt] at h1 ⊢
      have : a.toNat ≠ b.toNat := fun h => e (UInt8.toNat_inj.1 h)
      omega
theorem bl_asymm {a b : List UInt8} (h : Op.bytesLess a b = true) : Op.bytesLess b a = false := by
  cases h2 : Op.bytesLess b a
  · rfl
  · have := bl_trans a b a h h2
    rw [bl_irrefl] at this; cases this

theorem toList_inj {a b : ByteArray} (h : a.toList = b.toList) : a = b := by
  rw [ByteArray.toList_eq, ByteArray.toList_eq] at h
  cases a; cases b
  congr
  exact Array.toList_inj.1 h
theorem eqS_iff {a b : ByteArray} : eqS a b = true ↔ a = b := by
  unfold eqS
  rw [beq_iff_eq]
  exact ⟨toList_inj, fun h => by rw [h]⟩
theorem eqS_self (a : ByteArray) : eqS a a = true := eqS_iff.2 rfl
theorem eqS_no {a b : ByteArray} : eqS a b = false ↔ a ≠ b := by
  rw [← Bool.not_eq_true, eqS_iff]

theorem sameKeyB_iff {a b : Reg} : sameKeyB a b = true ↔ a.n = b.n ∧ a.f = b.f := by
  simp [sameKeyB, eqS_iff]
theorem aheadB_irrefl (a : Reg) : aheadB a a = false := by
  simp [aheadB, eqS_self, ltS, bl_irrefl]
theorem ahead_ne {a b : Reg} (h : aheadB a b = true) : ¬ (a.n = b.n ∧ a.f = b.f) := by
  rintro ⟨h1, h2⟩
  simp [aheadB, h1, h2, eqS_self, ltS, bl_irrefl] at h
theorem aheadB_trans {a b c : Reg} (h1 : aheadB a b = true) (h2 : aheadB b c = true) : aheadB a c = true := by
  unfold aheadB ltS at *
  cases e1 : eqS a.n b.n
  · rw [e1] at h1
    simp only [Bool.false_eq_true, if_false] at h1
    cases e2 : eqS b.n c.n
    · rw [e2] at h2
      simp only [Bool.false_eq_true, if_false] at h2
      have h3 := bl_trans _ _ _ h1 h2
      have e3 : eqS a.n c.n = false := by
        rw [eqS_no]; intro h; rw [h, bl_irrefl] at h3; cases h3
      rw [e3]; simpa using h3
    · have := eqS_iff.1 e2
      rw [← this, e1]; simpa using h1
  · have := eqS_iff.1 e1
    rw [e1] at h1
    simp only [if_true] at h1
    rw [this]
    cases e2 : eqS b.n c.n
    · rw [e2] at h2; simpa using h2
    · rw [e2] at h2
      simp only [if_true] at h2 ⊢
      exact bl_trans _ _ _ h1 h2
theorem ahead_total {a b : Reg} (h : sameKeyB a b = false) (h2 : aheadB a b = false) : aheadB b a = true := by
  unfold aheadB ltS at *
  cases e1 : eqS a.n b.n
  · have e2 : eqS b.n a.n = false := by rw [eqS_no] at e1 ⊢; exact fun h => e1 h.symm
    rw [e1] at h2
    rw [e2]
    simp only [Bool.false_eq_true, if_false] at h2 ⊢
    exact bl_total _ _ (fun h => (eqS_no.1 e1) (toList_inj h)) h2
  · have e2 : eqS b.n a.n = true := by rw [eqS_iff] at e1 ⊢; exact e1.symm
    rw [e1] at h2
    rw [e2]
    simp only [if_true] at h2 ⊢
    refine bl_total _ _ (fun h3 => ?_) h2
    have : sameKeyB a b = true := sameKeyB_iff.2 ⟨eqS_iff.1 e1, toList_inj h3⟩
    rw [h] at this; cases this
theorem ahead_asymm {a b : Reg} (h : aheadB a b = true) : aheadB b a = false := by
  cases h2 : aheadB b a
  · rfl
  · have := aheadB_trans h h2
    rw [aheadB_irrefl] at this; cases this

/-! ### a book in order -/
def SortedB (l : List Reg) : Prop := l.Pairwise (fun a b => aheadB a b = true)

def withR : List Reg → Reg → List Reg
  | [], x => [x]
  | y :: r, x => if sameKeyB y x then (if winsB x y then x else y) :: r else if aheadB x y then x :: y :: r else y :: withR r x

theorem foldWith_done (x : Reg) : ∀ (r out : List Reg), (∀ z ∈ r, sameKeyB z x = false) → r.foldl (withStep x) (out, true) = (out ++ r, true)
  | [], out, _ => by simp
  | z :: r, out, h => by
    have hz := h z (by simp)
    have e : withStep x (out, true) z = (out ++ [z], true) := by simp [withStep, hz]
    rw [List.foldl_cons, e, foldWith_done x r _ (fun z hz => h z (by simp [hz]))]
    simp

theorem same_ahead {x y z : Reg} (h : sameKeyB y x = true) (hz : aheadB y z = true) : sameKeyB z x = false := by
  cases e : sameKeyB z x
  · rfl
  · rw [sameKeyB_iff] at h e
    exact absurd ⟨h.1.trans e.1.symm, h.2.trans e.2.symm⟩ (ahead_ne hz)
theorem behind_ne {x z : Reg} (hz : aheadB x z = true) : sameKeyB z x = false := by
  cases e : sameKeyB z x
  · rfl
  · rw [sameKeyB_iff] at e
    exact absurd ⟨e.1.symm, e.2.symm⟩ (ahead_ne hz)

theorem foldWith_eq (x : Reg) : ∀ (l out : List Reg), SortedB l → (if (l.foldl (withStep x) (out, false)).2 then (l.foldl (withStep x) (out, false)).1 else (l.foldl (withStep x) (out, false)).1 ++ [x]) = out ++ withR l x
  | [], out, _ => by simp [withR]
  | y :: r, out, h => by
    obtain ⟨h1, h2⟩ := List.pairwise_cons.1 h
    rw [List.foldl_cons]
    cases hs : sameKeyB y x
    · cases ha : aheadB x y
      · have e : withStep x (out, false) y = (out ++ [y], false) := by simp [withStep, hs, ha]
        rw [e, foldWith_eq x r _ h2]
        simp [withR, hs, ha]
      · have e : withStep x (out, false) y = (out ++ [x, y], true) := by simp [withStep, hs, ha]
        rw [e, foldWith_done x r _ (fun z hz => behind_ne (aheadB_trans ha (h1 z hz)))]
        simp [withR, hs, ha]
    · have e : withStep x (out, false) y = (out ++ [if winsB x y then x else y], true) := by simp [withStep, hs]
      rw [e, foldWith_done x r _ (fun z hz => same_ahead hs (h1 z hz))]
      simp [withR, hs]
theorem withL_eq (l : List Reg) (x : Reg) (h : SortedB l) : withL l x = withR l x := by
  have h0 := foldWith_eq x l [] h
  rw [List.nil_append] at h0
  exact h0

theorem withR_mem {l : List Reg} {x z : Reg} (h : z ∈ withR l x) : z = x ∨ z ∈ l := by
  induction l with
  | nil => simpa [withR] using h
  | cons y r ih =>
    unfold withR at h
    split at h
    · rcases List.mem_cons.1 h with h | h
      · split at h
        · exact .inl h
        · exact .inr (by simp [h])
      · exact .inr (by simp [h])
    · split at h
      · simp only [List.mem_cons] at h ⊢
        rcases h with h | h | h <;> simp [h]
      · rcases List.mem_cons.1 h with h | h
        · exact .inr (by simp [h])
        · rcases ih h with h | h
          · exact .inl h
          · exact .inr (by simp [h])

theorem ahead_key {a b c : Reg} (hn : a.n = b.n) (hf : a.f = b.f) : aheadB a c = aheadB b c ∧ aheadB c a = aheadB c b := by
  simp [aheadB, hn, hf]

theorem withR_sorted (x : Reg) : ∀ l : List Reg, SortedB l → SortedB (withR l x)
  | [], _ => by simp [withR, SortedB]
  | y :: r, h => by
    obtain ⟨h1, h2⟩ := List.pairwise_cons.1 h
    unfold withR
    cases hs : sameKeyB y x
    · cases ha : aheadB x y
      · simp only [Bool.false_eq_true, if_false]
        refine List.pairwise_cons.2 ⟨fun z hz => ?_, withR_sorted x r h2⟩
        rcases withR_mem hz with rfl | hz
        · exact ahead_total (by
            cases e : sameKeyB z y
            · rfl
            · rw [sameKeyB_iff] at e
              have : sameKeyB y z = true := sameKeyB_iff.2 ⟨e.1.symm, e.2.symm⟩
              rw [hs] at this; cases this) ha
        · exact h1 z hz
      · simp only [Bool.false_eq_true, if_false, if_true]
        refine List.pairwise_cons.2 ⟨fun z hz => ?_, h⟩
        rcases List.mem_cons.1 hz with rfl | hz
        · exact ha
        · exact aheadB_trans ha (h1 z hz)
    · simp only [if_true]
      refine List.pairwise_cons.2 ⟨fun z hz => ?_, h2⟩
      split
      · rw [sameKeyB_iff] at hs
        rw [← (ahead_key (c := z) hs.1 hs.2).1]; exact h1 z hz
      · exact h1 z hz

/-- the register of a key -/
def getR (l : List Reg) (n f : ByteArray) : Option Reg := l.find? (fun y => eqS y.n n && eqS y.f f)
def putR (o : Option Reg) (x : Reg) : Reg := match o with
  | some old => if winsB x old then x else old
  | none => x

theorem getR_none_of {l : List Reg} {n f : ByteArray} (h : ∀ z ∈ l, ¬ (z.n = n ∧ z.f = f)) : getR l n f = none := by
  rw [getR, List.find?_eq_none]
  intro z hz
  simp [eqS_iff]
  intro h1 h2
  exact h z hz ⟨h1, h2⟩

theorem getR_withR (x : Reg) (n f : ByteArray) : ∀ l : List Reg, SortedB l → getR (withR l x) n f = if x.n = n ∧ x.f = f then some (putR (getR l n f) x) else getR l n f
  | [], _ => by
    by_cases h : x.n = n ∧ x.f = f
    · rw [if_pos h]; simp [withR, getR, h.1, h.2, eqS_self, putR]
    · rw [if_neg h]
      have : (eqS x.n n && eqS x.f f) = false := by
        cases e : (eqS x.n n && eqS x.f f)
        · rfl
        · rw [Bool.and_eq_true, eqS_iff, eqS_iff] at e; exact absurd e h
      simp [withR, getR, this]
  | y :: r, hl => by
    obtain ⟨h1, h2⟩ := List.pairwise_cons.1 hl
    have ih := getR_withR x n f r h2
    by_cases hx : x.n = n ∧ x.f = f
    · rw [if_pos hx] at ih ⊢
      cases hs : sameKeyB y x
      · have hy : (eqS y.n n && eqS y.f f) = false := by
          rw [← hx.1, ← hx.2]; exact hs
        have hg : getR (y :: r) n f = getR r n f := by simp [getR, hy]
        rw [hg]
        cases ha : aheadB x y
        · simp only [withR, hs, ha, Bool.false_eq_true, if_false]
          rw [← ih]; simp [getR, hy]
        · simp only [withR, hs, ha, Bool.false_eq_true, if_false, if_true]
          have : getR r n f = none := getR_none_of (fun z hz e => ahead_ne (aheadB_trans ha (h1 z hz)) ⟨hx.1.trans e.1.symm, hx.2.trans e.2.symm⟩)
          rw [this]
          simp [getR, hx.1, hx.2, eqS_self, putR]
      · have hk := sameKeyB_iff.1 hs
        have hy : (eqS y.n n && eqS y.f f) = true := by
          rw [← hx.1, ← hx.2]; exact hs
        have hg : getR (y :: r) n f = some y := by simp [getR, hy]
        rw [hg]
        simp only [withR, hs, if_true, putR]
        split
        · simp [getR, hx.1, hx.2, eqS_self]
        · simp [getR, hy]
    · rw [if_neg hx] at ih ⊢
      have hxn : (eqS x.n n && eqS x.f f) = false := by
        cases e : (eqS x.n n && eqS x.f f)
        · rfl
        · rw [Bool.and_eq_true, eqS_iff, eqS_iff] at e; exact absurd e hx
      cases hs : sameKeyB y x
      · cases ha : aheadB x y
        · simp only [withR, hs, ha, Bool.false_eq_true, if_false]
          unfold getR at ih ⊢
          simp only [List.find?_cons]
          split
          · rfl
          · exact ih
        · simp only [withR, hs, ha, Bool.false_eq_true, if_false, if_true]
          simp [getR, hxn]
      · have hk := sameKeyB_iff.1 hs
        have hy : (eqS y.n n && eqS y.f f) = false := by rw [hk.1, hk.2]; exact hxn
        simp only [withR, hs, if_true]
        split
        · simp [getR, hxn, hy]
        · simp [getR, hy]

theorem withR_len (x : Reg) : ∀ l : List Reg, (withR l x).length ≤ l.length + 1
  | [] => by simp [withR]
  | y :: r => by
    have := withR_len x r
    unfold withR
    split
    · simp
    · split
      · simp
      · simp; omega

theorem getR_mem {l : List Reg} {n f : ByteArray} {y : Reg} (h : getR l n f = some y) : y ∈ l ∧ y.n = n ∧ y.f = f := by
  have h1 := List.mem_of_find?_eq_some h
  have h2 := List.find?_some h
  simp [eqS_iff] at h2
  exact ⟨h1, h2⟩
theorem getR_of_mem {l : List Reg} (hs : SortedB l) {y : Reg} (h : y ∈ l) : getR l y.n y.f = some y := by
  induction l with
  | nil => simp at h
  | cons z r ih =>
    obtain ⟨h1, h2⟩ := List.pairwise_cons.1 hs
    rcases List.mem_cons.1 h with rfl | h
    · simp [getR, eqS_self]
    · have : (eqS z.n y.n && eqS z.f y.f) = false := by
        cases e : (eqS z.n y.n && eqS z.f y.f)
        · rfl
        · rw [Bool.and_eq_true, eqS_iff, eqS_iff] at e; exact absurd e (ahead_ne (h1 y h))
      have e : getR (z :: r) y.n y.f = getR r y.n y.f := by simp [getR, this]
      rw [e, ih h2 h]

theorem clockL_le {l : List Reg} {n : Int} (h0 : 0 ≤ n) (h : ∀ y ∈ l, y.c ≤ n) : clockL l ≤ n := by
  suffices ∀ (l : List Reg) (m : Int), m ≤ n → (∀ y ∈ l, y.c ≤ n) → l.foldl (fun n x => if n < x.c then x.c else n) m ≤ n from this l 0 h0 h
  intro l
  induction l with
  | nil => intro m hm _; exact hm
  | cons y r ih =>
    intro m hm h
    rw [List.foldl_cons]
    refine ih _ ?_ (fun z hz => h z (by simp [hz]))
    have := h y (by simp)
    split <;> omega
theorem le_clockL {l : List Reg} {y : Reg} (h : y ∈ l) : y.c ≤ clockL l := by
  suffices ∀ (l : List Reg) (m : Int), y ∈ l → y.c ≤ l.foldl (fun n x => if n < x.c then x.c else n) m from this l 0 h
  intro l
  induction l with
  | nil => intro m h; simp at h
  | cons z r ih =>
    intro m h
    rw [List.foldl_cons]
    rcases List.mem_cons.1 h with rfl | h
    · refine Int.le_trans ?_ (clockL_ge r _)
      split <;> omega
    · exact ih _ h
theorem clockL_eq {l : List Reg} {g : Int} (h0 : 0 ≤ g) (h1 : ∀ y ∈ l, y.c ≤ g) (h2 : g = 0 ∨ ∃ y ∈ l, g = y.c) : clockL l = g := by
  have a := clockL_le h0 h1
  rcases h2 with rfl | ⟨y, hy, rfl⟩
  · have := clockL_nonneg l; omega
  · have := le_clockL hy; omega
end Go.Proofs.YtdfafhclhfijnaaGreatDoor
