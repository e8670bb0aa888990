import Derived.Test.YtjhlijobdihplaaGreatDoorM02
import Derived.Maps.RangeWalk
import Derived.Maps.OwnSet
import Derived.StringKeys
import Derived.Laws.IdiomRangeMap
import Derived.StillTail
import Derived.Deep.QuietTactic
import Derived.BigQuiet
namespace Go.Proofs.YtjhlijobdihplaaGreatDoor
open Go.RowKit Go.Extern

set_option maxHeartbeats 400000 in
theorem letters_any (s : ByteArray) (m : Int) (w : World) (hs : s.size ≤ maxLen) :
    Calls Tryz.prog 80 #[.string s, .int .i64 m] w fun e w' => e = .returned (.bool (smallB s m)) ∧ w' = w := by
  unfold maxLen at hs
  by_cases h1 : (s.size : Int) < 1
  · go_enter Tryz.func80, Tryz.ntmps80
    go_wp2
    go_ret
    exact ⟨ret_bool (by unfold smallB; rw [decide_eq_false (p := 0 < s.size) (by omega)]; simp), rfl⟩
  · by_cases h2 : m < (s.size : Int)
    · go_enter Tryz.func80, Tryz.ntmps80
      go_wp2
      go_ret
      exact ⟨ret_bool (by unfold smallB; rw [decide_eq_false (p := (s.size : Int) ≤ m) (by omega)]; simp), rfl⟩
    · have HR : Hid (smallB s m = lettersB s.data.toList) := by
        show smallB s m = _
        unfold smallB; rw [decide_eq_true (p := (s.size : Int) ≤ m) (by omega), decide_eq_true (p := 0 < s.size) (by omega)]; simp
      go_enter Tryz.func80, Tryz.ntmps80
      go_wp2
      go_loop [17] (fun i => ∃ k : Nat, k ≤ s.size ∧ i = .int .i64 k ∧ lettersB (s.data.toList.take k) = true) (fun i => s.size - (intOf i).toNat)
      case atStart => exact ⟨0, Nat.zero_le _, rfl, rfl⟩
      case round =>
        obtain ⟨k, hk, rfl, hl⟩ := hrel
        by_cases hlt : k < s.size
        · by_cases h3 : (s[k].toNat : Int) < 97
          · go_wp2
            go_ret
            exact ⟨ret_bool (by rw [HR.out, letters_no s k hlt (letterB_no (.inl h3))]), rfl⟩
          · by_cases h4 : 122 < (s[k].toNat : Int)
            · go_wp2
              go_ret
              exact ⟨ret_bool (by rw [HR.out, letters_no s k hlt (letterB_no (.inr h4))]), rfl⟩
            · go_wp2
              go_round
              case rel => exact ⟨k + 1, by omega, by go_num, letters_yes s k hlt hl (letterB_yes ⟨by omega, by omega⟩)⟩
              case measure => simp [intOf]; omega
        · have hall : lettersB s.data.toList = true := by
            rw [List.take_of_length_le (by simp; omega)] at hl; exact hl
          have H : Hid (lettersB s.data.toList = true) := hall
          clear hall hl
          go_wp2
          go_ret
          exact ⟨ret_bool (by rw [HR.out, H.out]), rfl⟩

set_option maxHeartbeats 400000 in
theorem fault_any (k : Int) (s : ByteArray) (w : World) :
    Calls Tryz.prog 63 #[.int .i64 k, .string s] w fun e w' => e = .returned (.iface 110 (.pointer (some ⟨w.heap.size, 0, none⟩))) ∧ w' = w.alloc (.cells #[.int .i64 k, .string s] 115) := by
  go_enter Tryz.func63, Tryz.ntmps63
  go_wp2
  go_ret
  exact ⟨rfl, rfl⟩

set_option maxHeartbeats 400000 in
theorem checkName_ok (s : ByteArray) (w : World) (hs : s.size ≤ maxLen) (h : smallB s 8 = true) :
    Calls Tryz.prog 61 #[.string s] w fun e w' => e = .returned .nilIface ∧ w' = w := by
  have hL := letters_any s 8 w hs
  rw [h] at hL
  go_enter Tryz.func61, Tryz.ntmps61
  go_wp2_with fail
  refine hL.mono ?_
  rintro e w' ⟨rfl, hw⟩
  subst hw
  go_wp2_with fail
  go_ret
  exact ⟨rfl, rfl⟩

set_option maxHeartbeats 400000 in
theorem checkName_no (s : ByteArray) (w : World) (hs : s.size ≤ maxLen) (h : smallB s 8 = false) :
    Calls Tryz.prog 61 #[.string s] w fun e w' => e = .returned (.iface 110 (.pointer (some ⟨w.heap.size, 0, none⟩))) ∧ w' = w.alloc (.cells #[.int .i64 1, .string s] 115) := by
  have hL := letters_any s 8 w hs
  rw [h] at hL
  go_enter Tryz.func61, Tryz.ntmps61
  go_wp2_with fail
  refine hL.mono ?_
  rintro e w' ⟨rfl, hw⟩
  subst hw
  go_wp2_with fail
  refine (fault_any 1 s _).mono ?_
  rintro e w'' ⟨rfl, hw⟩
  subst hw
  go_wp2_with fail
  go_ret
  exact ⟨rfl, rfl⟩

/-- what checkPut tells: 0, or the error's kind and what it is about -/
def putErr (name field value : ByteArray) : Int × ByteArray :=
  if smallB name 8 = false then (1, name) else if smallB field 4 = false then (2, field) else if 20 < (value.size : Int) then (3, value) else (0, ⟨#[]⟩)

set_option maxHeartbeats 400000 in
theorem checkPut_ok (n f v : ByteArray) (w : World) (h1 : n.size ≤ maxLen) (h2 : f.size ≤ maxLen) (h3 : v.size ≤ maxLen) (b1 : smallB n 8 = true) (b2 : smallB f 4 = true) (b3 : (v.size : Int) ≤ 20) :
    Calls Tryz.prog 57 #[.string n, .string f, .string v] w fun e w' => e = .returned .nilIface ∧ w' = w := by
  have hL := letters_any f 4 w h2
  rw [b2] at hL
  unfold maxLen at h3
  go_enter Tryz.func57, Tryz.ntmps57
  go_wp2_with fail
  refine (checkName_ok n w h1 b1).mono ?_
  rintro e w' ⟨rfl, hw⟩
  subst hw
  go_wp2_with fail
  refine hL.mono ?_
  rintro e w' ⟨rfl, hw⟩
  subst hw
  go_wp2_with fail
  go_ret
  exact ⟨rfl, rfl⟩

set_option maxHeartbeats 400000 in
theorem checkPut_no (n f v : ByteArray) (w : World) (h1 : n.size ≤ maxLen) (h2 : f.size ≤ maxLen) (_h3 : v.size ≤ maxLen) (h : (putErr n f v).1 ≠ 0) :
    Calls Tryz.prog 57 #[.string n, .string f, .string v] w fun e w' => e = .returned (.iface 110 (.pointer (some ⟨w.heap.size, 0, none⟩))) ∧ w' = w.alloc (.cells #[.int .i64 (putErr n f v).1, .string (putErr n f v).2] 115) := by
  have hL := letters_any f 4 w h2
  unfold maxLen at _h3
  have HP : Hid (putErr n f v = if smallB n 8 = false then (1, n) else if smallB f 4 = false then (2, f) else if 20 < (v.size : Int) then (3, v) else (0, ⟨#[]⟩)) := rfl
  generalize putErr n f v = R at *
  cases b1 : smallB n 8
  · have hR : R = (1, n) := by rw [HP.out, b1]; rfl
    subst hR
    clear HP
    go_enter Tryz.func57, Tryz.ntmps57
    go_wp2_with fail
    refine (checkName_no n w h1 b1).mono ?_
    rintro e w' ⟨rfl, hw⟩
    subst hw
    go_wp2_with fail
    go_ret
    exact ⟨rfl, rfl⟩
  · cases b2 : smallB f 4
    · have hR : R = (2, f) := by rw [HP.out, b1, b2]; rfl
      subst hR
      clear HP
      rw [b2] at hL
      go_enter Tryz.func57, Tryz.ntmps57
      go_wp2_with fail
      refine (checkName_ok n w h1 b1).mono ?_
      rintro e w' ⟨rfl, hw⟩
      subst hw
      go_wp2_with fail
      refine hL.mono ?_
      rintro e w' ⟨rfl, hw⟩
      subst hw
      go_wp2_with fail
      refine (fault_any 2 f _).mono ?_
      rintro e w' ⟨rfl, hw⟩
      subst hw
      go_wp2_with fail
      go_ret
      exact ⟨rfl, rfl⟩
    · by_cases b3 : 20 < (v.size : Int)
      · have hR : R = (3, v) := by rw [HP.out, b1, b2]; simp [b3]
        subst hR
        clear HP
        rw [b2] at hL
        go_enter Tryz.func57, Tryz.ntmps57
        go_wp2_with fail
        refine (checkName_ok n w h1 b1).mono ?_
        rintro e w' ⟨rfl, hw⟩
        subst hw
        go_wp2_with fail
        refine hL.mono ?_
        rintro e w' ⟨rfl, hw⟩
        subst hw
        go_wp2_with fail
        refine (fault_any 3 v _).mono ?_
        rintro e w' ⟨rfl, hw⟩
        subst hw
        go_wp2_with fail
        go_ret
        exact ⟨rfl, rfl⟩
      · exact absurd (by rw [HP.out, b1, b2]; simp [b3]) h

set_option maxHeartbeats 400000 in
theorem later_any (a b : Reg) (w : World) :
    Calls Tryz.prog 93 #[.agg #[.int .i64 a.c, .int .i64 a.r], .agg #[.int .i64 b.c, .int .i64 b.r]] w fun e w' => e = .returned (.bool (laterB a b)) ∧ Below w.heap.size w w' := by
  cases h1 : (a.c == b.c)
  · go_enter Tryz.func93, Tryz.ntmps93
    go_wp2
    go_ret
    exact ⟨ret_bool (by rw [laterB, h1]; simp), ((Below.refl _ _).alloc (Nat.le_refl _) _).alloc (by simp) _⟩
  · have h2 : a.c = b.c := by simpa using h1
    go_enter Tryz.func93, Tryz.ntmps93
    go_wp2
    go_ret
    exact ⟨ret_bool (by rw [laterB, h1, h2]; simp), ((Below.refl _ _).alloc (Nat.le_refl _) _).alloc (by simp) _⟩

/-- The register of two of one key that stands. -/
def winnerR (a b : Reg) : Reg := if winsB a b then a else b
theorem winsB_later {a b : Reg} (h : laterB a b = true) : winsB a b = true := by
  unfold laterB at h; unfold winsB
  by_cases hc : a.c = b.c
  · rw [if_pos hc]
    have h2 : b.r < a.r := by
      simp [hc] at h; exact h
    rw [if_neg (by omega)]; simpa using h2
  · rw [if_neg hc]
    simp [hc] at h ⊢; exact h
end Go.Proofs.YtjhlijobdihplaaGreatDoor
namespace Go.Proofs.YtjhlijobdihplaaGreatDoor
open Go.RowKit

/-! ### the order of texts, and of keys -/
theorem bl_irrefl : ∀ a : List UInt8, Op.bytesLess a a = false
  | [] => rfl
  | a :: x => by simp [Op.bytesLess, bl_irrefl x, UInt8.lt_irrefl]
theorem bl_trans : ∀ a b c : List UInt8, Op.bytesLess a b = true → Op.bytesLess b c = true → Op.bytesLess a c = true
  | [], [], c, h, _ => by simp [Op.bytesLess] at h
  | [], b :: y, [], _, h => by simp [Op.bytesLess] at h
  | [], b :: y, c :: z, _, _ => by simp [Op.bytesLess]
  | a :: x, [], c, h, _ => by simp [Op.bytesLess] at h
  | a :: x, b :: y, [], _, h => by simp [Op.bytesLess] at h
  | a :: x, b :: y, c :: z, h1, h2 => by
    simp only [Op.bytesLess, Bool.or_eq_true, Bool.and_eq_true, decide_eq_true_eq, beq_iff_eq] at h1 h2 ⊢
    rcases h1 with h1 | ⟨rfl, h1⟩
    · rcases h2 with h2 | ⟨rfl, h2⟩
      · exact .inl (UInt8.lt_trans h1 h2)
      · exact .inl h1
    · rcases h2 with h2 | ⟨rfl, h2⟩
      · exact .inl h2
      · exact .inr ⟨rfl, bl_trans x y z h1 h2⟩
theorem bl_total : ∀ a b : List UInt8, a ≠ b → Op.bytesLess a b = false → Op.bytesLess b a = true
  | [], [], h, _ => absurd rfl h
  | [], b :: y, _, h => by simp [Op.bytesLess] at h
  | a :: x, [], _, _ => by simp [Op.bytesLess]
  | a :: x, b :: y, hne, h => by
    simp only [Op.bytesLess, Bool.or_eq_false_iff, Bool.and_eq_false_iff, decide_eq_false_iff_not, beq_eq_false_iff_ne] at h
    simp only [Op.bytesLess, Bool.or_eq_true, Bool.and_eq_true, decide_eq_true_eq, beq_iff_eq]
    obtain ⟨h1, h2⟩ := h
    by_cases e : a = b
    · subst e
      refine .inr ⟨rfl, bl_total x y (fun e => hne (by rw [e])) ?_⟩
      rcases h2 with h2 | h2
      · exact absurd rfl h2
      · exact h2
    · left
      rw [UInt8.lt_iff_toNat_lt] at h1 ⊢
      have : a.toNat ≠ b.toNat := fun h => e (UInt8.toNat_inj.1 h)
      omega
theorem bl_asymm {a b : List UInt8} (h : Op.bytesLess a b = true) : Op.bytesLess b a = false := by
  cases h2 : Op.bytesLess b a
  · rfl
  · have := bl_trans a b a h h2
    rw [bl_irrefl] at this; cases this

theorem toList_inj {a b : ByteArray} (h : a.toList = b.toList) : a = b := by
  rw [ByteArray.toList_eq, ByteArray.toList_eq] at h
  cases a; cases b
  congr
  exact Array.toList_inj.1 h
theorem eqS_iff {a b : ByteArray} : eqS a b = true ↔ a = b := by
  unfold eqS
  rw [beq_iff_eq]
  exact ⟨toList_inj, fun h => by rw [h]⟩
theorem eqS_self (a : ByteArray) : eqS a a = true := eqS_iff.2 rfl
theorem eqS_no {a b : ByteArray} : eqS a b = false ↔ a ≠ b := by
  rw [← Bool.not_eq_true, eqS_iff]

theorem sameKeyB_iff {a b : Reg} : sameKeyB a b = true ↔ a.n = b.n ∧ a.f = b.f := by
  simp [sameKeyB, eqS_iff]
theorem aheadB_irrefl (a : Reg) : aheadB a a = false := by
  simp [aheadB, eqS_self, ltS, bl_irrefl]
theorem ahead_ne {a b : Reg} (h : aheadB a b = true) : ¬ (a.n = b.n ∧ a.f = b.f) := by
  rintro ⟨h1, h2⟩
  simp [aheadB, h1, h2, eqS_self, ltS, bl_irrefl] at h
theorem aheadB_trans {a b c : Reg} (h1 : aheadB a b = true) (h2 : aheadB b c = true) : aheadB a c = true := by
  unfold aheadB ltS at *
  cases e1 : eqS a.n b.n
  · rw [e1] at h1
    simp only [Bool.false_eq_true, if_false] at h1
    cases e2 : eqS b.n c.n
    · rw [e2] at h2
      simp only [Bool.false_eq_true, if_false] at h2
      have h3 := bl_trans _ _ _ h1 h2
      have e3 : eqS a.n c.n = false := by
        rw [eqS_no]; intro h; rw [h, bl_irrefl] at h3; cases h3
      rw [e3]; simpa using h3
    · have := eqS_iff.1 e2
      rw [← this, e1]; simpa using h1
  · have := eqS_iff.1 e1
    rw [e1] at h1
    simp only [if_true] at h1
    rw [this]
    cases e2 : eqS b.n c.n
    · rw [e2] at h2; simpa using h2
    · rw [e2] at h2
      simp only [if_true] at h2 ⊢
      exact bl_trans _ _ _ h1 h2
theorem ahead_total {a b : Reg} (h : sameKeyB a b = false) (h2 : aheadB a b = false) : aheadB b a = true := by
  unfold aheadB ltS at *
  cases e1 : eqS a.n b.n
  · have e2 : eqS b.n a.n = false := by rw [eqS_no] at e1 ⊢; exact fun h => e1 h.symm
    rw [e1] at h2
    rw [e2]
    simp only [Bool.false_eq_true, if_false] at h2 ⊢
    exact bl_total _ _ (fun h => (eqS_no.1 e1) (toList_inj h)) h2
  · have e2 : eqS b.n a.n = true := by rw [eqS_iff] at e1 ⊢; exact e1.symm
    rw [e1] at h2
    rw [e2]
    simp only [if_true] at h2 ⊢
    refine bl_total _ _ (fun h3 => ?_) h2
    have : sameKeyB a b = true := sameKeyB_iff.2 ⟨eqS_iff.1 e1, toList_inj h3⟩
    rw [h] at this; cases this
theorem ahead_asymm {a b : Reg} (h : aheadB a b = true) : aheadB b a = false := by
  cases h2 : aheadB b a
  · rfl
  · have := aheadB_trans h h2
    rw [aheadB_irrefl] at this; cases this

/-! ### a book in order -/
def SortedB (l : List Reg) : Prop := l.Pairwise (fun a b => aheadB a b = true)

def withR : List Reg → Reg → List Reg
  | [], x => [x]
  | y :: r, x => if sameKeyB y x then (if winsB x y then x else y) :: r else if aheadB x y then x :: y :: r else y :: withR r x

theorem foldWith_done (x : Reg) : ∀ (r out : List Reg), (∀ z ∈ r, sameKeyB z x = false) → r.foldl (withStep x) (out, true) = (out ++ r, true)
  | [], out, _ => by simp
  | z :: r, out, h => by
    have hz := h z (by simp)
    have e : withStep x (out, true) z = (out ++ [z], true) := by simp [withStep, hz]
    rw [List.foldl_cons, e, foldWith_done x r _ (fun z hz => h z (by simp [hz]))]
    simp

theorem same_ahead {x y z : Reg} (h : sameKeyB y x = true) (hz : aheadB y z = true) : sameKeyB z x = false := by
  cases e : sameKeyB z x
  · rfl
  · rw [sameKeyB_iff] at h e
    exact absurd ⟨h.1.trans e.1.symm, h.2.trans e.2.symm⟩ (ahead_ne hz)
theorem behind_ne {x z : Reg} (hz : aheadB x z = true) : sameKeyB z x = false := by
  cases e : sameKeyB z x
  · rfl
  · rw [sameKeyB_iff] at e
    exact absurd ⟨e.1.symm, e.2.symm⟩ (ahead_ne hz)

theorem foldWith_eq (x : Reg) : ∀ (l out : List Reg), SortedB l → (if (l.foldl (withStep x) (out, false)).2 then (l.foldl (withStep x) (out, false)).1 else (l.foldl (withStep x) (out, false)).1 ++ [x]) = out ++ withR l x
  | [], out, _ => by simp [withR]
  | y :: r, out, h => by
    obtain ⟨h1, h2⟩ := List.pairwise_cons.1 h
    rw [List.foldl_cons]
    cases hs : sameKeyB y x
    · cases ha : aheadB x y
      · have e : withStep x (out, false) y = (out ++ [y], false) := by simp [withStep, hs, ha]
        rw [e, foldWith_eq x r _ h2]
        simp [withR, hs, ha]
      · have e : withStep x (out, false) y = (out ++ [x, y], true) := by simp [withStep, hs, ha]
        rw [e, foldWith_done x r _ (fun z hz => behind_ne (aheadB_trans ha (h1 z hz)))]
        simp [withR, hs, ha]
    · have e : withStep x (out, false) y = (out ++ [if winsB x y then x else y], true) := by simp [withStep, hs]
      rw [e, foldWith_done x r _ (fun z hz => same_ahead hs (h1 z hz))]
      simp [withR, hs]
theorem withL_eq (l : List Reg) (x : Reg) (h : SortedB l) : withL l x = withR l x := by
  have h0 := foldWith_eq x l [] h
  rw [List.nil_append] at h0
  exact h0

theorem withR_mem {l : List Reg} {x z : Reg} (h : z ∈ withR l x) : z = x ∨ z ∈ l := by
  induction l with
  | nil => simpa [withR] using h
  | cons y r ih =>
    unfold withR at h
    split at h
    · rcases List.mem_cons.1 h with h | h
      · split at h
        · exact .inl h
        · exact .inr (by simp [h])
      · exact .inr (by simp [h])
    · split at h
      · simp only [List.mem_cons] at h ⊢
        rcases h with h | h | h <;> simp [h]
      · rcases List.mem_cons.1 h with h | h
        · exact .inr (by simp [h])
        · rcases ih h with h | h
          · exact .inl h
          · exact .inr (by simp [h])

theorem ahead_key {a b c : Reg} (hn : a.n = b.n) (hf : a.f = b.f) : aheadB a c = aheadB b c ∧ aheadB c a = aheadB c b := by
  simp [aheadB, hn, hf]

theorem withR_sorted (x : Reg) : ∀ l : List Reg, SortedB l → SortedB (withR l x)
  | [], _ => by simp [withR, SortedB]
  | y :: r, h => by
    obtain ⟨h1, h2⟩ := List.pairwise_cons.1 h
    unfold withR
    cases hs : sameKeyB y x
    · cases ha : aheadB x y
      · simp only [Bool.false_eq_true, if_false]
        refine List.pairwise_cons.2 ⟨fun z hz => ?_, withR_sorted x r h2⟩
        rcases withR_mem hz with rfl | hz
        · exact ahead_total (by
            cases e : sameKeyB z y
            · rfl
            · rw [sameKeyB_iff] at e
              have : sameKeyB y z = true := sameKeyB_iff.2 ⟨e.1.symm, e.2.symm⟩
              rw [hs] at this; cases this) ha
        · exact h1 z hz
      · simp only [Bool.false_eq_true, if_false, if_true]
        refine List.pairwise_cons.2 ⟨fun z hz => ?_, h⟩
        rcases List.mem_cons.1 hz with rfl | hz
        · exact ha
        · exact aheadB_trans ha (h1 z hz)
    · simp only [if_true]
      refine List.pairwise_cons.2 ⟨fun z hz => ?_, h2⟩
      split
      · rw [sameKeyB_iff] at hs
        rw [← (ahead_key (c := z) hs.1 hs.2).1]; exact h1 z hz
      · exact h1 z hz

/-- the register of a key -/
def getR (l : List Reg) (n f : ByteArray) : Option Reg := l.find? (fun y => eqS y.n n && eqS y.f f)
def putR (o : Option Reg) (x : Reg) : Reg := match o with
  | some old => if winsB x old then x else old
  | none => x

theorem getR_none_of {l : List Reg} {n f : ByteArray} (h : ∀ z ∈ l, ¬ (z.n = n ∧ z.f = f)) : getR l n f = none := by
  rw [getR, List.find?_eq_none]
  intro z hz
  simp [eqS_iff]
  intro h1 h2
  exact h z hz ⟨h1, h2⟩

theorem getR_withR (x : Reg) (n f : ByteArray) : ∀ l : List Reg, SortedB l → getR (withR l x) n f = if x.n = n ∧ x.f = f then some (putR (getR l n f) x) else getR l n f
  | [], _ => by
    by_cases h : x.n = n ∧ x.f = f
    · rw [if_pos h]; simp [withR, getR, h.1, h.2, eqS_self, putR]
    · rw [if_neg h]
      have : (eqS x.n n && eqS x.f f) = false := by
        cases e : (eqS x.n n && eqS x.f f)
        · rfl
        · rw [Bool.and_eq_true, eqS_iff, eqS_iff] at e; exact absurd e h
      simp [withR, getR, this]
  | y :: r, hl => by
    obtain ⟨h1, h2⟩ := List.pairwise_cons.1 hl
    have ih := getR_withR x n f r h2
    by_cases hx : x.n = n ∧ x.f = f
    · rw [if_pos hx] at ih ⊢
      cases hs : sameKeyB y x
      · have hy : (eqS y.n n && eqS y.f f) = false := by
          rw [← hx.1, ← hx.2]; exact hs
        have hg : getR (y :: r) n f = getR r n f := by simp [getR, hy]
        rw [hg]
        cases ha : aheadB x y
        · simp only [withR, hs, ha, Bool.false_eq_true, if_false]
          rw [← ih]; simp [getR, hy]
        · simp only [withR, hs, ha, Bool.false_eq_true, if_false, if_true]
          have : getR r n f = none := getR_none_of (fun z hz e => ahead_ne (aheadB_trans ha (h1 z hz)) ⟨hx.1.trans e.1.symm, hx.2.trans e.2.symm⟩)
          rw [this]
          simp [getR, hx.1, hx.2, eqS_self, putR]
      · have hk := sameKeyB_iff.1 hs
        have hy : (eqS y.n n && eqS y.f f) = true := by
          rw [← hx.1, ← hx.2]; exact hs
        have hg : getR (y :: r) n f = some y := by simp [getR, hy]
        rw [hg]
        simp only [withR, hs, if_true, putR]
        split
        · simp [getR, hx.1, hx.2, eqS_self]
        · simp [getR, hy]
    · rw [if_neg hx] at ih ⊢
      have hxn : (eqS x.n n && eqS x.f f) = false := by
        cases e : (eqS x.n n && eqS x.f f)
        · rfl
        · rw [Bool.and_eq_true, eqS_iff, eqS_iff] at e; exact absurd e hx
      cases hs : sameKeyB y x
      · cases ha : aheadB x y
        · simp only [withR, hs, ha, Bool.false_eq_true, if_false]
          unfold getR at ih ⊢
          simp only [List.find?_cons]
          split
          · rfl
          · exact ih
        · simp only [withR, hs, ha, Bool.false_eq_true, if_false, if_true]
          simp [getR, hxn]
      · have hk := sameKeyB_iff.1 hs
        have hy : (eqS y.n n && eqS y.f f) = false := by rw [hk.1, hk.2]; exact hxn
        simp only [withR, hs, if_true]
        split
        · simp [getR, hxn, hy]
        · simp [getR, hy]

theorem withR_len (x : Reg) : ∀ l : List Reg, (withR l x).length ≤ l.length + 1
  | [] => by simp [withR]
  | y :: r => by
    have := withR_len x r
    unfold withR
    split
    · simp
    · split
      · simp
      · simp; omega

theorem getR_mem {l : List Reg} {n f : ByteArray} {y : Reg} (h : getR l n f = some y) : y ∈ l ∧ y.n = n ∧ y.f = f := by
  have h1 := List.mem_of_find?_eq_some h
  have h2 := List.find?_some h
  simp [eqS_iff] at h2
  exact ⟨h1, h2⟩
theorem getR_of_mem {l : List Reg} (hs : SortedB l) {y : Reg} (h : y ∈ l) : getR l y.n y.f = some y := by
  induction l with
  | nil => simp at h
  | cons z r ih =>
    obtain ⟨h1, h2⟩ := List.pairwise_cons.1 hs
    rcases List.mem_cons.1 h with rfl | h
    · simp [getR, eqS_self]
    · have : (eqS z.n y.n && eqS z.f y.f) = false := by
        cases e : (eqS z.n y.n && eqS z.f y.f)
        · rfl
        · rw [Bool.and_eq_true, eqS_iff, eqS_iff] at e; exact absurd e (ahead_ne (h1 y h))
      have e : getR (z :: r) y.n y.f = getR r y.n y.f := by simp [getR, this]
      rw [e, ih h2 h]

theorem clockL_le {l : List Reg} {n : Int} (h0 : 0 ≤ n) (h : ∀ y ∈ l, y.c ≤ n) : clockL l ≤ n := by
  suffices ∀ (l : List Reg) (m : Int), m ≤ n → (∀ y ∈ l, y.c ≤ n) → l.foldl (fun n x => if n < x.c then x.c else n) m ≤ n from this l 0 h0 h
  intro l
  induction l with
  | nil => intro m hm _; exact hm
  | cons y r ih =>
    intro m hm h
    rw [List.foldl_cons]
    refine ih _ ?_ (fun z hz => h z (by simp [hz]))
    have := h y (by simp)
    split <;> omega
theorem le_clockL {l : List Reg} {y : Reg} (h : y ∈ l) : y.c ≤ clockL l := by
  suffices ∀ (l : List Reg) (m : Int), y ∈ l → y.c ≤ l.foldl (fun n x => if n < x.c then x.c else n) m from this l 0 h
  intro l
  induction l with
  | nil => intro m h; simp at h
  | cons z r ih =>
    intro m h
    rw [List.foldl_cons]
    rcases List.mem_cons.1 h with rfl | h
    · refine Int.le_trans ?_ (clockL_ge r _)
      split <;> omega
    · exact ih _ h
theorem clockL_eq {l : List Reg} {g : Int} (h0 : 0 ≤ g) (h1 : ∀ y ∈ l, y.c ≤ g) (h2 : g = 0 ∨ ∃ y ∈ l, g = y.c) : clockL l = g := by
  have a := clockL_le h0 h1
  rcases h2 with rfl | ⟨y, hy, rfl⟩
  · have := clockL_nonneg l; omega
  · have := le_clockL hy; omega
end Go.Proofs.YtjhlijobdihplaaGreatDoor
namespace Go.Proofs.YtjhlijobdihplaaGreatDoor
open Go.RowKit Go.Maps
open Go.ChangeMaps (setBlock heap_setBlock_same heap_setBlock_other)

/-- the key that a text is -/
def keyL (s : ByteArray) : Lit := .string s.data.toList
theorem keyL_inj {s t : ByteArray} (h : keyL s = keyL t) : s = t := by
  unfold keyL at h
  injection h with h
  cases s; cases t
  congr
  exact Array.toList_inj.1 h
theorem keyL_ok (s : ByteArray) : WideAt.IsKeyLit (keyL s) := by simp [keyL, WideAt.IsKeyLit]
theorem strLaw : Keyed Tryz.prog 9 := string_keyed Tryz.underlying9
theorem keyOf_s {s : ByteArray} (hs : s.size ≤ maxLen) : keyOf Tryz.prog 9 (.string s) = some (keyL s) := WideMaps.keyOf_string_mk Tryz.underlying9 hs

/-- how an element of the outer map reads: the inner map's block -/
def Rout : Value → Option (DataW Unit × List MemPlace)
  | .map (some b) => some (.lit (.int .i64 b), [])
  | _ => none
def blockD (b : Nat) : DataW Unit := .lit (.int .i64 b)
theorem Rout_mk (b : Nat) : Rout (.map (some b)) = some (blockD b, []) := rfl
theorem Rout_inv {v : Value} {b : Nat} {ps : List MemPlace} (h : Rout v = some (blockD b, ps)) : v = .map (some b) := by
  unfold Rout at h
  split at h
  · simp only [Option.some.injEq, Prod.mk.injEq, blockD, DataW.lit.injEq, Lit.int.injEq, true_and] at h
    have := h.1
    rw [Int.ofNat_inj.1 this]
  · cases h
theorem Rout_form {v : Value} {y : DataW Unit × List MemPlace} (h : Rout v = some y) : ∃ b : Nat, v = .map (some b) ∧ y = (blockD b, []) := by
  unfold Rout at h
  split at h
  · rename_i b
    exact ⟨b, rfl, by cases h; rfl⟩
  · cases h

/-- how an element of an inner map reads: the register -/
def regD (x : Reg) : DataW Unit := .agg [.lit (.string x.n.data.toList), .lit (.string x.f.data.toList), .lit (.int .i64 x.c), .lit (.int .i64 x.r), .lit (.string x.v.data.toList)]
def regV (x : Reg) : Value := .agg #[.string x.n, .string x.f, .int .i64 x.c, .int .i64 x.r, .string x.v]
def Rin : Value → Option (DataW Unit × List MemPlace)
  | .agg cs => match cs.toList with
    | [.string n, .string f, .int .i64 c, .int .i64 r, .string v] => some (regD ⟨n, f, c, r, v⟩, [])
    | _ => none
  | _ => none
theorem Rin_mk (x : Reg) : Rin (regV x) = some (regD x, []) := rfl
theorem bytes_inj {a b : ByteArray} (h : a.data.toList = b.data.toList) : a = b := by
  cases a; cases b
  congr
  exact Array.toList_inj.1 h
theorem regD_inj {x y : Reg} (h : regD x = regD y) : x = y := by
  unfold regD at h
  simp only [DataW.agg.injEq, List.cons.injEq, DataW.lit.injEq, Lit.string.injEq, Lit.int.injEq, true_and, and_true] at h
  obtain ⟨h1, h2, h3, h4, h5⟩ := h
  cases x; cases y
  simp only at h1 h2 h3 h4 h5
  rw [bytes_inj h1, bytes_inj h2, h3, h4, bytes_inj h5]
theorem Rin_form {v : Value} {y : DataW Unit × List MemPlace} (h : Rin v = some y) : ∃ x : Reg, v = regV x ∧ y = (regD x, []) := by
  unfold Rin at h
  split at h
  · rename_i cs
    split at h
    · rename_i n f c r v' hc
      refine ⟨⟨n, f, c, r, v'⟩, ?_, by cases h; rfl⟩
      have : cs = #[.string n, .string f, .int .i64 c, .int .i64 r, .string v'] := by
        rw [← hc]
      rw [this]; rfl
    · cases h
  · cases h
theorem Rin_inv {v : Value} {x : Reg} {ps : List MemPlace} (h : Rin v = some (regD x, ps)) : v = regV x := by
  obtain ⟨y, hv, hy⟩ := Rin_form h
  simp only [Prod.mk.injEq] at hy
  rw [hv, regD_inj hy.1]

/-- block b is a map that holds just what m tells -/
def MapIs (R : Value → Option (DataW Unit × List MemPlace)) (w : World) (b : Nat) (m : ByteArray → Option (DataW Unit)) (n : Nat) : Prop :=
  ∃ D, w.ownsMap Tryz.prog 9 R b n D ∧ (∀ s, Maps.has D (keyL s) = (m s).isSome) ∧ ∀ s d, m s = some d → ∀ z, D.atKey (keyL s) z = d

theorem MapIs.lt {R : Value → Option (DataW Unit × List MemPlace)} {w : World} {b n : Nat} {m : ByteArray → Option (DataW Unit)} (h : MapIs R w b m n) : b < w.heap.size := by
  obtain ⟨D, h, _⟩ := h
  exact h.lt
theorem MapIs.block {R : Value → Option (DataW Unit × List MemPlace)} {w w' : World} {b n : Nat} {m : ByteArray → Option (DataW Unit)} (h : MapIs R w b m n) (hb : w'.heap[b]? = w.heap[b]?) : MapIs R w' b m n := by
  obtain ⟨D, ⟨es, clock, h1, h2⟩, h3⟩ := h
  exact ⟨D, ⟨es, clock, hb.trans h1, h2⟩, h3⟩
theorem MapIs.mono {R : Value → Option (DataW Unit × List MemPlace)} {w : World} {b n n' : Nat} {m : ByteArray → Option (DataW Unit)} (h : MapIs R w b m n) (hn : n ≤ n') : MapIs R w b m n' := by
  obtain ⟨D, h1, h2⟩ := h
  exact ⟨D, h1.mono hn, h2⟩
theorem MapIs.congr {R : Value → Option (DataW Unit × List MemPlace)} {w : World} {b n : Nat} {m m' : ByteArray → Option (DataW Unit)} (h : MapIs R w b m n) (hm : ∀ s, m s = m' s) : MapIs R w b m' n := by
  have : m = m' := funext hm
  rw [← this]; exact h

/-- 'm[k]' at a key that is there -/
theorem MapIs.hit {R : Value → Option (DataW Unit × List MemPlace)} {w : World} {b n : Nat} {m : ByteArray → Option (DataW Unit)} (h : MapIs R w b m n) {t e : TypeId} (ht : Tryz.prog.underlying t = some (.map 9 e))
    {z : Value} (hz : (zeroValue e).run Tryz.prog w = .ok z w) {s : ByteArray} (hs : s.size ≤ maxLen) {d : DataW Unit} (hm : m s = some d) (c : Bool) :
    ∃ v ps, (Instr.lookup t (.map (some b)) (.string s) c).run Tryz.prog w = .ok (if c then .tuple #[v, .bool true] else v) w ∧ R v = some (d, ps) := by
  obtain ⟨D, ⟨es, clock, h1, F, _, rfl⟩, h2, h3⟩ := h
  rcases Maps.fit_look c strLaw ht hz h1 F (keyOf_s hs) with ⟨_, _, hat⟩ | ⟨e0, y, _, _, hrun, hRv, hat, _⟩
  · have a := h2 s
    rw [Maps.has_false_of_atKey hat, hm] at a
    cases a
  · refine ⟨e0.val, y.2, hrun, ?_⟩
    have a := h3 s d hm y.1
    rw [hat y.1] at a
    rw [hRv, ← a]
/-- 'm[k]' at a key that is not there -/
theorem MapIs.miss {R : Value → Option (DataW Unit × List MemPlace)} {w : World} {b n : Nat} {m : ByteArray → Option (DataW Unit)} (h : MapIs R w b m n) {t e : TypeId} (ht : Tryz.prog.underlying t = some (.map 9 e))
    {z : Value} (hz : (zeroValue e).run Tryz.prog w = .ok z w) {s : ByteArray} (hs : s.size ≤ maxLen) (hm : m s = none) (c : Bool) :
    (Instr.lookup t (.map (some b)) (.string s) c).run Tryz.prog w = .ok (if c then .tuple #[z, .bool false] else z) w := by
  obtain ⟨D, ⟨es, clock, h1, F, _, rfl⟩, h2, h3⟩ := h
  rcases Maps.fit_look c strLaw ht hz h1 F (keyOf_s hs) with ⟨hrun, _⟩ | ⟨e0, y, _, _, hrun, hRv, hat, _⟩
  · exact hrun
  · have a := h2 s
    rw [Maps.has_true_of_atKey hat, hm] at a
    cases a
/-- 'm[k] = v' -/
theorem MapIs.put {R : Value → Option (DataW Unit × List MemPlace)} {w : World} {b n : Nat} {m : ByteArray → Option (DataW Unit)} (h : MapIs R w b m n) {t e : TypeId} (ht : Tryz.prog.underlying t = some (.map 9 e))
    (hn : n < 1000000) {s : ByteArray} (hs : s.size ≤ maxLen) {v : Value} {d : DataW Unit} {ps : List MemPlace} (hv : R v = some (d, ps)) :
    ∃ w', (Instr.mapUpdate t (.map (some b)) (.string s) v).run Tryz.prog w = .ok () w' ∧ MapIs R w' b (fun q => if q = s then some d else m q) (n + 1) ∧ w.grownBy w' (some b) ∧ w'.heap.size = w.heap.size := by
  obtain ⟨D, h1, h2, h3⟩ := h
  have him := h1.isMap
  obtain ⟨w', hrun, hown, hg⟩ := h1.store strLaw ht (by unfold maxLen; omega) (keyOf_s hs) hv
  have hg2 := hg.grown
  obtain ⟨es, clock, es', clock', _, he⟩ := hg
  refine ⟨w', hrun, ⟨_, hown, ?_, ?_⟩, hg2, by rw [he]; simp [setBlock]⟩
  · intro q
    by_cases hq : q = s
    · subst hq
      rw [has_put_same him (keyL_ok _)]; simp
    · rw [has_put_other (fun e => hq (keyL_inj e))]; simp [hq, h2]
  · intro q d' hd z
    by_cases hq : q = s
    · subst hq
      simp only [if_true, Option.some.injEq] at hd
      rw [atKey_put_same him (keyL_ok _), hd]
    · simp only [if_neg hq] at hd
      rw [atKey_put_other (fun e => hq (keyL_inj e))]
      exact h3 q d' hd z
/-- 'make(map..)' -/
theorem MapIs_made (R : Value → Option (DataW Unit × List MemPlace)) (w : World) : MapIs R (w.alloc (.map #[] 0)) w.heap.size (fun _ => none) 0 :=
  ⟨_, World.ownsMap_made w _ _ _, fun s => rfl, fun s d h => by cases h⟩

/-! ### a book in memory -/
def hasN (l : List Reg) (s : ByteArray) : Bool := l.any (fun y => eqS y.n s)
theorem hasN_iff {l : List Reg} {s : ByteArray} : hasN l s = true ↔ ∃ y ∈ l, y.n = s := by
  simp [hasN, eqS_iff]
def innerM (l : List Reg) (s : ByteArray) : ByteArray → Option (DataW Unit) := fun f => (getR l s f).map regD
def outerM (l : List Reg) (nb : ByteArray → Nat) : ByteArray → Option (DataW Unit) := fun s => if hasN l s then some (blockD (nb s)) else none
/-- the maps behind a book that is not nil -/
def Maps2 (w : World) (M : Nat) (nb : ByteArray → Nat) (l : List Reg) (n : Nat) : Prop :=
  MapIs Rout w M (outerM l nb) n ∧ (∀ s, hasN l s = true → MapIs Rin w (nb s) (innerM l s) n ∧ nb s ≠ M) ∧ ∀ s t, hasN l s = true → hasN l t = true → nb s = nb t → s = t
def BookAt (w : World) (v : Value) (M : Nat) (nb : ByteArray → Nat) (l : List Reg) (n : Nat) : Prop := (v = .map none ∧ l = []) ∨ (v = .map (some M) ∧ Maps2 w M nb l n)
def footB (M : Nat) (nb : ByteArray → Nat) (l : List Reg) (k : Nat) : Prop := k = M ∨ ∃ s, hasN l s = true ∧ k = nb s

theorem Maps2.block {w w' : World} {M : Nat} {nb : ByteArray → Nat} {l : List Reg} {n : Nat} (h : Maps2 w M nb l n) (hb : ∀ k, footB M nb l k → w'.heap[k]? = w.heap[k]?) : Maps2 w' M nb l n :=
  ⟨h.1.block (hb _ (.inl rfl)), fun s hs => ⟨(h.2.1 s hs).1.block (hb _ (.inr ⟨s, hs, rfl⟩)), (h.2.1 s hs).2⟩, h.2.2⟩
theorem Maps2.lt {w : World} {M : Nat} {nb : ByteArray → Nat} {l : List Reg} {n : Nat} (h : Maps2 w M nb l n) : ∀ k, footB M nb l k → k < w.heap.size := by
  rintro k (rfl | ⟨s, hs, rfl⟩)
  · exact h.1.lt
  · exact (h.2.1 s hs).1.lt
theorem BookAt.block {w w' : World} {v : Value} {M : Nat} {nb : ByteArray → Nat} {l : List Reg} {n : Nat} (h : BookAt w v M nb l n) (hb : v ≠ .map none → ∀ k, footB M nb l k → w'.heap[k]? = w.heap[k]?) : BookAt w' v M nb l n := by
  rcases h with h | ⟨rfl, h⟩
  · exact .inl h
  · exact .inr ⟨rfl, h.block (hb (by simp))⟩
theorem BookAt.below {w w' : World} {v : Value} {M : Nat} {nb : ByteArray → Nat} {l : List Reg} {n : Nat} (h : BookAt w v M nb l n) (hb : Below w.heap.size w w') : BookAt w' v M nb l n := by
  rcases h with h | ⟨rfl, h⟩
  · exact .inl h
  · exact .inr ⟨rfl, h.block (fun k hk => hb.block k (h.lt k hk))⟩

theorem zeroReg_run (w : World) : (zeroValue 99).run Tryz.prog w = .ok (.agg #[.string ⟨#[]⟩, .string ⟨#[]⟩, .int .i64 0, .int .i64 0, .string ⟨#[]⟩]) w := by kernel_rfl
theorem zeroCon_run (w : World) : (zeroValue 150).run Tryz.prog w = .ok (.map none) w := by kernel_rfl

/-- b.contacts[name]: the inner map, or nil -/
theorem BookAt.contact {w : World} {v : Value} {M : Nat} {nb : ByteArray → Nat} {l : List Reg} {n : Nat} (h : BookAt w v M nb l n) {s : ByteArray} (hs : s.size ≤ maxLen) :
    (Instr.lookup 104 v (.string s) false).run Tryz.prog w = .ok (if hasN l s then .map (some (nb s)) else .map none) w := by
  rcases h with ⟨rfl, rfl⟩ | ⟨rfl, h⟩
  · rw [Maps.look_nil false strLaw Tryz.underlying104 (zeroCon_run w) (keyOf_s hs)]
    rfl
  · cases hh : hasN l s
    · rw [h.1.miss Tryz.underlying104 (zeroCon_run w) hs (by simp [outerM, hh]) false]; rfl
    · obtain ⟨v, ps, hrun, hv⟩ := h.1.hit Tryz.underlying104 (zeroCon_run w) hs (d := blockD (nb s)) (by simp [outerM, hh]) false
      rw [hrun, Rout_inv hv]; rfl

/-- what 'b.contacts[name]' is, and what it holds -/
def conV (l : List Reg) (nb : ByteArray → Nat) (s : ByteArray) : Value := if hasN l s then .map (some (nb s)) else .map none
theorem getR_noName {l : List Reg} {s f : ByteArray} (h : hasN l s = false) : getR l s f = none :=
  getR_none_of (fun z hz e => by
    have : hasN l s = true := hasN_iff.2 ⟨z, hz, e.1⟩
    rw [h] at this; cases this)

/-- contact[field] of such a map, with ok -/
theorem BookAt.reg {w : World} {v : Value} {M : Nat} {nb : ByteArray → Nat} {l : List Reg} {n : Nat} (h : BookAt w v M nb l n) {s f : ByteArray} (hs : f.size ≤ maxLen) :
    (Instr.lookup 150 (conV l nb s) (.string f) true).run Tryz.prog w = .ok (.tuple #[match getR l s f with | some y => regV y | none => .agg #[.string ⟨#[]⟩, .string ⟨#[]⟩, .int .i64 0, .int .i64 0, .string ⟨#[]⟩], .bool (getR l s f).isSome]) w := by
  unfold conV
  cases hh : hasN l s
  · rw [getR_noName hh]
    simp only [Bool.false_eq_true, if_false]
    rw [Maps.look_nil true strLaw Tryz.underlying150 (zeroReg_run w) (keyOf_s hs)]
    rfl
  · simp only [if_true]
    rcases h with ⟨rfl, rfl⟩ | ⟨rfl, h⟩
    · simp [hasN] at hh
    · have hi := (h.2.1 s hh).1
      cases hg : getR l s f with
      | none =>
        rw [hi.miss Tryz.underlying150 (zeroReg_run w) hs (by simp [innerM, hg]) true]; rfl
      | some y =>
        obtain ⟨v, ps, hrun, hv⟩ := hi.hit Tryz.underlying150 (zeroReg_run w) hs (d := regD y) (by simp [innerM, hg]) true
        rw [hrun, Rin_inv hv]; rfl
end Go.Proofs.YtjhlijobdihplaaGreatDoor
namespace Go.Proofs.YtjhlijobdihplaaGreatDoor
open Go.RowKit Go.Maps

theorem invS : ∀ key kl, keyOf Tryz.prog 9 key = some kl → ∃ x, key = Value.string x := by
  intro key kl h
  cases key <;> simp [keyOf, Tryz.underlying9, mapKey] at h
  exact ⟨_, rfl⟩
theorem keyS {x : ByteArray} {kl : Lit} (h : keyOf Tryz.prog 9 (.string x) = some kl) : kl = keyL x ∧ x.size ≤ maxLen := by
  simp [keyOf, Tryz.underlying9, mapKey] at h
  exact ⟨h.2.symm, h.1⟩
theorem invOut : ∀ v y, Rout v = some y → ∃ b : Nat, v = .map (some b) := fun v y h => by obtain ⟨b, h, _⟩ := Rout_form h; exact ⟨b, h⟩
theorem invIn : ∀ v y, Rin v = some y → ∃ x : Reg, v = regV x := fun v y h => by obtain ⟨b, h, _⟩ := Rin_form h; exact ⟨b, h⟩

/-- what Next has met: nothing greater, and it is one of them -/
def Met1 (l : List Reg) (left : Lit → Bool) (g : Int) : Prop := 0 ≤ g ∧ (∀ y ∈ l, left (keyL y.n) = false → y.c ≤ g) ∧ (g = 0 ∨ ∃ y ∈ l, g = y.c)

set_option maxRecDepth 100000 in
set_option maxHeartbeats 1000000 in
theorem next_nil (p o : Nat) (w : World) (hc : w.cell? ⟨p, o, none⟩ = some (.map none)) :
    Calls Tryz.prog 82 #[.pointer (some ⟨p, o, none⟩)] w fun e w' => e = .returned (.int .i64 1) ∧ Below w.heap.size w w' := by
  have hrg := run_range_nilMap (P := Tryz.prog) w 104 9 150 Tryz.underlying104
  have hnx : ∀ ty, (Instr.next (.pointer (some ⟨w.heap.size, 0, none⟩)) false ty).run Tryz.prog (w.alloc (.mapIter none 0 #[] 0)) = _ := fun ty => run_next_nilMap w ty 0 0 #[]
  go_enter Tryz.func82, Tryz.ntmps82
  go_wp2
  refine wp_loop_rounds 1 ?_
  rw [rounds_succ]
  go_wp2
  go_ret
  exact ⟨rfl, (Below.refl _ _).alloc (Nat.le_refl _) _⟩

def Met2 (l : List Reg) (left : Lit → Bool) (x : ByteArray) (left2 : Lit → Bool) (g : Int) : Prop := 0 ≤ g ∧ (∀ y ∈ l, left (keyL y.n) = false → y.c ≤ g) ∧ (∀ y ∈ l, y.n = x → left2 (keyL y.f) = false → y.c ≤ g) ∧ (g = 0 ∨ ∃ y ∈ l, g = y.c)

theorem same_keyL {s t : ByteArray} : (keyL s).sameKey (keyL t) = true ↔ s = t := by
  rw [WideAt.sameKey_iff (keyL_ok t)]
  exact ⟨keyL_inj, fun h => by rw [h]⟩

theorem Met2.step {l : List Reg} {left left2 : Lit → Bool} {x f : ByteArray} {g : Int} {z : Reg} (h : Met2 l left x left2 g) (hs : SortedB l) (hz : getR l x f = some z) : Met2 l left x (fun q => left2 q && !q.sameKey (keyL f)) (max g z.c) := by
  obtain ⟨h0, h1, h2, h3⟩ := h
  obtain ⟨hm, hzn, hzf⟩ := getR_mem hz
  refine ⟨by omega, fun y hy hl => by have := h1 y hy hl; omega, fun y hy hx hl => ?_, ?_⟩
  · simp only [Bool.and_eq_false_iff, Bool.not_eq_false'] at hl
    rcases hl with hl | hl
    · have := h2 y hy hx hl; omega
    · have e := same_keyL.1 hl
      have a := getR_of_mem hs hy
      rw [hx, e, hz] at a
      cases a
      omega
  · by_cases hgz : g ≤ z.c
    · exact .inr ⟨z, hm, by omega⟩
    · rcases h3 with h3 | ⟨y, hy, h3⟩
      · exact .inl (by omega)
      · exact .inr ⟨y, hy, by omega⟩
theorem Met2.done {l : List Reg} {left left2 : Lit → Bool} {x : ByteArray} {g : Int} (h : Met2 l left x left2 g) (hl : ∀ q, left2 q = false) : Met1 l (fun q => left q && !q.sameKey (keyL x)) g := by
  obtain ⟨h0, h1, h2, h3⟩ := h
  refine ⟨h0, fun y hy hq => ?_, h3⟩
  simp only [Bool.and_eq_false_iff, Bool.not_eq_false'] at hq
  rcases hq with hq | hq
  · exact h1 y hy hq
  · exact h2 y hy (same_keyL.1 hq) (hl _)

/-- the name that the outer map's step has brought -/
theorem outer_step {l : List Reg} {nb : ByteArray → Nat} {D y : DataW Unit} {x : ByteArray} {b : Nat} {ps : List MemPlace} (hhas : ∀ s, Maps.has D (keyL s) = (outerM l nb s).isSome) (hat0 : ∀ s d, outerM l nb s = some d → ∀ z, D.atKey (keyL s) z = d)
    (hat : ∀ zd, D.atKey (keyL x) zd = y) (hv : Rout (.map (some b)) = some (y, ps)) : hasN l x = true ∧ b = nb x := by
  have h1 := Maps.has_true_of_atKey hat
  rw [hhas x] at h1
  cases hh : hasN l x
  · simp [outerM, hh] at h1
  · have h2 := hat0 x (blockD (nb x)) (by simp [outerM, hh]) y
    rw [hat y] at h2
    have h3 := Rout_inv (h2 ▸ hv)
    simp only [Value.map.injEq, Option.some.injEq] at h3
    exact ⟨rfl, h3⟩
/-- the register that an inner map's step has brought -/
theorem inner_step {l : List Reg} {D y : DataW Unit} {x f : ByteArray} {z : Reg} {ps : List MemPlace} (hhas : ∀ s, Maps.has D (keyL s) = (innerM l x s).isSome) (hat0 : ∀ s d, innerM l x s = some d → ∀ z, D.atKey (keyL s) z = d)
    (hat : ∀ zd, D.atKey (keyL f) zd = y) (hv : Rin (regV z) = some (y, ps)) : getR l x f = some z := by
  have h1 := Maps.has_true_of_atKey hat
  rw [hhas f] at h1
  cases hg : getR l x f with
  | none => simp [innerM, hg] at h1
  | some z' =>
    have h2 := hat0 f (regD z') (by simp [innerM, hg]) y
    rw [hat y] at h2
    rw [Rin_mk] at hv
    cases hv
    rw [regD_inj h2]

set_option maxRecDepth 100000 in
set_option maxHeartbeats 2000000 in
theorem next_any (p o M n : Nat) (nb : ByteArray → Nat) (l : List Reg) (w : World) (hc : w.cell? ⟨p, o, none⟩ = some (.map (some M))) (hM : Maps2 w M nb l n) (hS : SortedB l) (hcl : clockL l ≤ 1000000) :
    Calls Tryz.prog 82 #[.pointer (some ⟨p, o, none⟩)] w fun e w' => e = .returned (.int .i64 (clockL l + 1)) ∧ Below w.heap.size w w' := by
  have hcn := clockL_nonneg l
  obtain ⟨D, hown, hhas, hat0⟩ := hM.1
  have hML := hM.lt
  go_enter Tryz.func82, Tryz.ntmps82
  go_wp2_with (at_range; refine wpList_range_own _ rfl _ 104 rfl 9 150 strLaw Tryz.underlying104 _ M n _ rfl hown ?_; intro w0 hrg0 hg0 hs0)
  go_frame
  go_loopw [3] (fun g wr => ∃ (left : Lit → Bool) (cnt : Nat) (gv : Int), g = .int .i64 gv ∧ wr.ranges Tryz.prog 9 Rout M w.heap.size n D left cnt ∧ Met1 l left gv ∧ Below w.heap.size w wr)
    (fun _ wr => wr.rangeLeft M w.heap.size)
  case atStart =>
    refine ⟨_, _, 0, rfl, hrg0, ⟨Int.le_refl _, fun y hy hf => ?_, .inl rfl⟩, (Below.refl _ _).grown hg0 (Nat.le_refl _) (fun j hj => by cases hj)⟩
    rw [hhas y.n] at hf
    have : hasN l y.n = true := hasN_iff.2 ⟨y, hy, rfl⟩
    simp [outerM, this] at hf
  case round =>
    obtain ⟨left, cnt, gv, rfl, hrg, hmet, hnx⟩ := hrel
    go_wp2_with (at_next; refine wpList_next_ranges _ rfl _ rfl 9 strLaw Rout Value.string (fun b : Nat => Value.map (some b)) invS invOut M w.heap.size n _ _ _ rfl hrg ?_ ?_)
    · intro hc0 hl0
      have e : clockL l = gv := clockL_eq hmet.1 (fun y hy => hmet.2.1 y hy (hl0 _)) hmet.2.2
      have E : Hid (clockL l = gv) := e
      have hb : gv ≤ 1000000 := by omega
      have hb0 : 0 ≤ gv := hmet.1
      clear e
      go_wp2
      go_ret
      exact ⟨ret_int (by rw [E.out]), hnx⟩
    · intro x b kl yd yp w1 cnt1 hkey hlk hv hat hrg1 hlt hg1 hs1 hen
      obtain ⟨rfl, hxs⟩ := keyS hkey
      obtain ⟨hx, rfl⟩ := outer_step hhas hat0 hat hv
      have hnx1 := hnx.grown hg1 hnx.size (fun j hj => by cases hj; exact Nat.le_refl _)
      obtain ⟨D2, hown2, hhas2, hat2⟩ := (hM.2.1 x hx).1
      have hnbl := hML (nb x) (.inr ⟨x, hx, rfl⟩)
      have hne := (hM.2.1 x hx).2
      have hown21 : w1.ownsMap Tryz.prog 9 Rin (nb x) n D2 := by
        obtain ⟨es, clock, h1, h2⟩ := hown2
        exact ⟨es, clock, (hnx1.block _ hnbl).trans h1, h2⟩
      have hw1 : w.heap.size < w1.heap.size := by have := hrg1.lt; exact this
      clear hs1
      go_wp2_with (at_range; refine wpList_range_own _ rfl _ 150 rfl 9 99 strLaw Tryz.underlying150 _ (nb x) n _ rfl hown21 ?_; intro w2 hrg2 hg2 hs2)
      go_frame
      go_loopw [3] (fun g wq => ∃ (left2 : Lit → Bool) (cnt2 : Nat) (g2 : Int), g = .int .i64 g2 ∧ wq.ranges Tryz.prog 9 Rin (nb x) w1.heap.size n D2 left2 cnt2 ∧
          wq.ranges Tryz.prog 9 Rout M w.heap.size n D (fun z => left z && !z.sameKey (keyL x)) cnt1 ∧ Met2 l left x left2 g2 ∧ Below w.heap.size w wq ∧ w1.heap.size < wq.heap.size)
        (fun _ wq => wq.rangeLeft (nb x) w1.heap.size)
      case atStart =>
        refine ⟨_, _, gv, rfl, hrg2, hrg1.kept hg2 (by simp) (by simp), ⟨hmet.1, hmet.2.1, fun y hy he hf => ?_, hmet.2.2⟩, hnx1.grown hg2 hnx1.size (fun j hj => by cases hj), by omega⟩
        rw [hhas2 y.f] at hf
        have a := getR_of_mem hS hy
        rw [he] at a
        simp [innerM, a] at hf
      case round =>
        clear hs2 hg2 hrg2
        obtain ⟨left2, cnt2, g2, rfl, hrq, hro, hmet2, hnq, hwq⟩ := hrel
        go_wp2_with (at_next; refine wpList_next_ranges _ rfl _ rfl 9 strLaw Rin Value.string regV invS invIn (nb x) w1.heap.size n _ _ _ rfl hrq ?_ ?_)
        · intro hc0 hl0
          go_wp2
          go_roundw
          case rel => exact ⟨_, cnt1, g2, rfl, hro, hmet2.done hl0, hnq⟩
          case measure => rw [hro.left_eq, hrg.left_eq]; exact hlt
        · intro f z kl2 yd2 yp2 w3 cnt3 hkey2 hlk2 hv2 hat3 hrg3 hlt3 hg3 hs3 hen3
          obtain ⟨rfl, hfs⟩ := keyS hkey2
          have hz := inner_step hhas2 hat2 hat3 hv2
          have hro3 := hro.kept hg3 (fun e => by have := Option.some.inj e; have := hML M (.inl rfl); omega) (fun e => by have := Option.some.inj e; omega)
          have hnq3 := hnq.grown hg3 hnq.size (fun j hj => by cases hj; omega)
          have hs3' : w1.heap.size < w3.heap.size := by omega
          have hm := hmet2.step hS hz
          clear hs3
          unfold regV at hen3 ⊢
          by_cases hg : g2 < z.c
          · have e : max g2 z.c = z.c := by omega
            rw [e] at hm
            clear e
            go_wp2
            refine ⟨⟨_, _, _, rfl, hrg3.alloc _, hro3.alloc _, hm, hnq3.alloc (by omega) _, by simp; omega⟩, ?_⟩
            rw [(hrg3.alloc _).left_eq, hrq.left_eq]; exact hlt3
          · have e : max g2 z.c = g2 := by omega
            rw [e] at hm
            clear e
            go_wp2
            refine ⟨⟨_, _, _, rfl, hrg3.alloc _, hro3.alloc _, hm, hnq3.alloc (by omega) _, by simp; omega⟩, ?_⟩
            rw [(hrg3.alloc _).left_eq, hrq.left_eq]; exact hlt3
end Go.Proofs.YtjhlijobdihplaaGreatDoor
namespace Go.Proofs.YtjhlijobdihplaaGreatDoor
open Go.RowKit Go.Maps

theorem wins_cases {a b : Reg} (h : winsB a b = true) : laterB a b = true ∨ (laterB a b = false ∧ a.c = b.c ∧ a.r = b.r ∧ (!ltS a.v b.v && !eqS a.v b.v) = true) := by
  cases hl : laterB a b
  · right
    unfold winsB at h
    unfold laterB at hl
    by_cases hc : a.c = b.c
    · rw [if_pos hc] at h
      by_cases hr : a.r = b.r
      · rw [if_pos hr] at h
        exact ⟨rfl, hc, hr, h⟩
      · rw [if_neg hr] at h
        simp [hc] at hl
        have := of_decide_eq_true h
        omega
    · rw [if_neg hc] at h
      have := of_decide_eq_true h
      simp [hc] at hl
      omega
  · exact .inl rfl

theorem bcell {W w1 : World} (hb : Below W.heap.size W w1) : (∀ b o, b < W.heap.size → w1.cell? ⟨b, o, none⟩ = W.cell? ⟨b, o, none⟩) ∧ (∀ b o, b < W.heap.size → w1.frozen? ⟨b, o, none⟩ = W.frozen? ⟨b, o, none⟩) :=
  ⟨fun b o h => hb.cell (p := ⟨b, o, none⟩) h, fun b o h => hb.frozen (p := ⟨b, o, none⟩) h⟩

set_option maxRecDepth 100000 in
set_option maxHeartbeats 1000000 in
theorem winner_wins (a b : Reg) (w : World) (h : winsB a b = true) :
    Calls Tryz.prog 81 #[.agg #[.string a.n, .string a.f, .int .i64 a.c, .int .i64 a.r, .string a.v], .agg #[.string b.n, .string b.f, .int .i64 b.c, .int .i64 b.r, .string b.v]] w
      fun e w' => e = .returned (.agg #[.string a.n, .string a.f, .int .i64 a.c, .int .i64 a.r, .string a.v]) ∧ Below w.heap.size w w' := by
  have HB : ∀ (o1 o2 o3 : Obj) (w' : World), Below (((w.alloc o1).alloc o2).alloc o3).heap.size (((w.alloc o1).alloc o2).alloc o3) w' → Below w.heap.size w w' := by
    intro o1 o2 o3 w' hb
    exact ((((Below.refl _ w).alloc (Nat.le_refl _) _).alloc (by simp) _).alloc (by simp; omega) _).trans (hb.mono (by simp; omega))
  have hHB : Hid (∀ (o1 o2 o3 : Obj) (w' : World), Below (((w.alloc o1).alloc o2).alloc o3).heap.size (((w.alloc o1).alloc o2).alloc o3) w' → Below w.heap.size w w') := HB
  clear HB
  rcases wins_cases h with hl | ⟨hl, hc, hr, hv⟩
  · go_enter Tryz.func81, Tryz.ntmps81
    go_wp2_with fail
    refine (later_any a b _).mono ?_
    rw [hl]
    rintro e w' ⟨rfl, hb⟩
    obtain ⟨hc1, hf1⟩ := bcell hb
    have hz : w.heap.size + 2 < w'.heap.size := by have := hb.size; simp at this; omega
    have hB : Hid (Below w.heap.size w w') := hHB.out _ _ _ _ hb
    clear hb hHB
    go_wp2
    exact bodyPost_ret (v := .agg #[.string a.n, .string a.f, .int .i64 a.c, .int .i64 a.r, .string a.v]) (by simp [results, Tryz.results81, go_sem, hc1]) rfl
      ⟨rfl, (((((hB.out.setCell (p := ⟨w.heap.size + 1 + 1, 0, none⟩) (by simp; omega) _).setCell (p := ⟨w.heap.size + 1 + 1, 1, none⟩) (by simp; omega) _).setCell (p := ⟨w.heap.size + 1 + 1, 2, none⟩) (by simp; omega) _).setCell (p := ⟨w.heap.size + 1 + 1, 3, none⟩) (by simp; omega) _).setCell (p := ⟨w.heap.size + 1 + 1, 4, none⟩) (by simp; omega) _)⟩
  · have hv1 : ltS a.v b.v = false := by
      cases e : ltS a.v b.v
      · rfl
      · rw [e] at hv; simp at hv
    have hv2 : eqS a.v b.v = false := by
      cases e : eqS a.v b.v
      · rfl
      · rw [e] at hv; simp at hv
    unfold ltS at hv1
    unfold eqS at hv2
    have q1 : (a.c == b.c) = true := by simp [hc]
    have q2 : (a.r == b.r) = true := by simp [hr]
    clear hc hr hv h
    go_enter Tryz.func81, Tryz.ntmps81
    go_wp2_with fail
    refine (later_any a b _).mono ?_
    rw [hl]
    rintro e w' ⟨rfl, hb⟩
    obtain ⟨hc1, hf1⟩ := bcell hb
    have hz : w.heap.size + 2 < w'.heap.size := by have := hb.size; simp at this; omega
    have hB : Hid (Below w.heap.size w w') := hHB.out _ _ _ _ hb
    clear hb hHB
    go_wp2
    exact bodyPost_ret (v := .agg #[.string a.n, .string a.f, .int .i64 a.c, .int .i64 a.r, .string a.v]) (by simp [results, Tryz.results81, go_sem, hc1]) rfl
      ⟨rfl, (((((hB.out.setCell (p := ⟨w.heap.size + 1 + 1, 0, none⟩) (by simp; omega) _).setCell (p := ⟨w.heap.size + 1 + 1, 1, none⟩) (by simp; omega) _).setCell (p := ⟨w.heap.size + 1 + 1, 2, none⟩) (by simp; omega) _).setCell (p := ⟨w.heap.size + 1 + 1, 3, none⟩) (by simp; omega) _).setCell (p := ⟨w.heap.size + 1 + 1, 4, none⟩) (by simp; omega) _)⟩

set_option maxHeartbeats 400000 in
theorem regEql_no (x y : Reg) (w : World) (h : (x.c == y.c && (x.r == y.r && (x.v.toList == y.v.toList))) = false) :
    (binOp .eql 99 (.agg #[.string x.n, .string x.f, .int .i64 x.c, .int .i64 x.r, .string x.v]) (.agg #[.string y.n, .string y.f, .int .i64 y.c, .int .i64 y.r, .string y.v])).run Tryz.prog w = .ok (.bool false) w := by
  cases h1 : (x.n.toList == y.n.toList)
  · go_simp
  · cases h2 : (x.f.toList == y.f.toList)
    · go_simp
    · cases h3 : (x.c == y.c)
      · go_simp
      · cases h4 : (x.r == y.r)
        · go_simp
        · have h5 : (x.v.toList == y.v.toList) = false := by rw [h3, h4] at h; simpa using h
          go_simp
end Go.Proofs.YtjhlijobdihplaaGreatDoor
namespace Go.Proofs.YtjhlijobdihplaaGreatDoor
open Go.RowKit Go

section
variable {P : Program} {ops : Array Oper} {C : World → Prop}

/-- i stands ahead of t, by at most f edges -/
def ancQ (ops : Array Oper) : Nat → Nat → Nat → Bool
  | 0, _, _ => false
  | f + 1, t, i => (List.range ops.size).any fun j => Region.waitsFor .any ops t j && (decide (j = i) || ancQ ops f j i)
/-- whatever stands behind n waits, by some way, for all that stands ahead of n -/
def headQ (ops : Array Oper) (n : Nat) : Bool := (List.range ops.size).all fun t => decide (t < n) || (List.range n).all fun i => ancQ ops ops.size t i

theorem ancQ_listed {n : Nat} {listed : Array Bool} (inv : HeadInv .any ops n listed) : ∀ (f t i : Nat), (∀ o, ops[t]? = some o → ∀ e ∈ o.after, Region.binds .any e = true → listed.getD e.on false = true) → ancQ ops f t i = true → listed.getD i false = true
  | 0, _, _, _, h => by cases h
  | f + 1, t, i, hd, h => by
    obtain ⟨j, _, hj⟩ := List.any_eq_true.1 h
    simp only [Bool.and_eq_true, Bool.or_eq_true, decide_eq_true_eq] at hj
    obtain ⟨o, ho, e, he, hb, hon⟩ := Region.waitsFor_spec hj.1
    have hl := hd o ho e he hb
    rw [hon] at hl
    rcases hj.2 with rfl | h2
    · exact hl
    · exact ancQ_listed inv f j i (fun o' ho' e' he' hb' => inv.closed j o' ho' hl e' he' hb') h2

theorem headQ_first {n : Nat} {listed : Array Bool} (hB : headQ ops n = true) (inv : HeadInv .any ops n listed) {i : Nat} (hi : i < n) (hun : listed.getD i true = false) {t : Nat} (ht : t ∈ Region.ready .any ops listed) : t < n := by
  rcases Nat.lt_or_ge t n with h | h
  · exact h
  · exfalso
    obtain ⟨_, o, ho, hall⟩ := mem_ready.1 ht
    have htl : t < ops.size := (Array.getElem?_eq_some_iff.1 ho).1
    have h1 := List.all_eq_true.1 hB t (List.mem_range.2 htl)
    simp only [Bool.or_eq_true, decide_eq_true_eq] at h1
    rcases h1 with h1 | h1
    · omega
    · have h2 := List.all_eq_true.1 h1 i (List.mem_range.2 hi)
      have h3 := ancQ_listed inv _ t i (fun o' ho' e he hb => by
        rw [ho] at ho'; cases ho'
        exact hall e he hb) h2
      rw [getD_both hun] at h3
      cases h3

/-- the head's walk: its operations are quiet in the class C -/
def wpAnyQL (P : Program) (ops : Array Oper) (C : World → Prop) (n : Nat) (L : Array Bool → Act → Prop) : Nat → Array Bool → Act → Prop
  | 0, listed, a => L listed a
  | f + 1, listed, a => Region.ready .any ops listed ≠ [] ∧ ∀ i ∈ Region.ready .any ops listed, i < n ∧ qOp P ops C i (wpAnyQL P ops C n L f (listed.setIfInBounds i true)) a

theorem wpAny_of_headQ {n g : Nat} {L : Array Bool → Act → Prop} {Q' : Exit → Act → World → Prop} (hL : ∀ listed a w, C w → L listed a → wpAny P .any ops Q' g listed a w) :
    ∀ (f : Nat) (listed : Array Bool) (a : Act) (w : World), C w → wpAnyQL P ops C n L f listed a → wpAny P .any ops Q' (f + g) listed a w
  | 0, listed, a, w, hw, h => by rw [Nat.zero_add]; exact hL _ _ _ hw h
  | f + 1, listed, a, w, hw, h => by
    rw [show f + 1 + g = (f + g) + 1 by omega]
    exact ⟨fun h0 => absurd h0 h.1, fun i hi => wpOp_of_qOp hw (fun a' w' hw' h' => wpAny_of_headQ hL f _ a' w' hw' h') (h.2 i hi).2⟩

/-- of the head, one that may come up may come up first -/
theorem headQ_take {n i : Nat} {oi : Oper} {v : Value} {L : Array Bool → Act → Prop} (hi : ops[i]? = some oi) (hsel : ∀ (j : Nat) (o : Oper) cs b, ops[j]? = some o → o.op ≠ .select cs b) (hB : headQ ops n = true) (hin : i < n)
    (hL : ∀ listed a, L listed a → ∀ j ∈ Region.ready .any ops listed, n ≤ j) (f : Nat) :
    ∀ (listed : Array Bool) (a : Act), HeadInv .any ops n listed → (∀ j oj, ops[j]? = some oj → j ≠ i → listed.getD j true = false → (∀ e ∈ oj.after, Region.binds .any e = true → e.on ≠ i) → oi.apart ops oj = true) →
      i ∈ Region.ready .any ops listed → YieldsIn P ops C oi v a → wpAnyQL P ops C n L f (listed.setIfInBounds i true) (a.put oi.dst v) → wpAnyQL P ops C n L (f + 1) listed a := by
  induction f with
  | zero =>
    intro listed a inv _ hr hy H
    refine ⟨fun h => (by rw [h] at hr; cases hr), fun j hj => ?_⟩
    have hjn := headQ_first hB inv hin (mem_ready.1 hr).1 hj
    refine ⟨hjn, ?_⟩
    by_cases e : j = i
    · subst e; exact hy.qOp hi H
    · exact absurd (hL _ _ H j (ready_mono hj e)) (by omega)
  | succ f ih =>
    intro listed a inv hfree hr hy H
    have hun := (mem_ready.1 hr).1
    refine ⟨fun h => (by rw [h] at hr; cases hr), fun j hj => ?_⟩
    have hjn := headQ_first hB inv hin hun hj
    refine ⟨hjn, ?_⟩
    by_cases e : j = i
    · subst e; exact hy.qOp hi H
    · obtain ⟨hju, oj, hoj, hall⟩ := mem_ready.1 hj
      have hno : ∀ e ∈ oj.after, Region.binds .any e = true → e.on ≠ i := fun e' he hb heq => by
        have := hall e' he hb
        rw [heq, getD_both hun] at this
        cases this
      have hput := qOp_put hoj (hfree j oj hoj e hju hno) (fun cs b => hsel i oi cs b hi) (fun cs b => hsel j oj cs b hoj) hy (H.2 j (ready_mono hj e)).2
      refine qOp_mono (fun a' h3 => ih _ a' (inv.set hj hjn) (fun k ok hk hki hku => hfree k ok hk hki ?_) (ready_mono hr (Ne.symm e)) h3.1 ?_) hput
      · by_cases hjk : j = k
        · subst hjk; exact hju
        · rw [getD_set_ne true hjk] at hku; exact hku
      · rw [Array.setIfInBounds_comm _ _ e]; exact h3.2

def listedQ (m : Nat) : Nat → Array Bool
  | 0 => Array.replicate m false
  | k + 1 => (listedQ m k).setIfInBounds k true

/-- each of the head may come up in the order of the text; behind them only what stands behind -/
def quietB (ops : Array Oper) (n : Nat) : Bool :=
  Region.noSelect ops && decide (n < ops.size) && headQ ops n && ((List.range n).all fun k => (Region.ready .any ops (listedQ ops.size k)).contains k && Region.free .any ops (listedQ ops.size k) k) && (Region.ready .any ops (listedQ ops.size n)).all fun j => decide (n ≤ j)

theorem quiet_lex {n : Nat} {Lq : Act → Prop} (hB : quietB ops n = true) : ∀ (l : List Oper) (k : Nat) (a : Act), (∀ j, j < l.length → l[j]? = ops[k + j]?) → k + l.length = n → HeadInv .any ops n (listedQ ops.size k) → wpQuiet P ops C Lq l a →
    wpAnyQL P ops C n (fun listed' a' => listed' = listedQ ops.size n ∧ Lq a') l.length (listedQ ops.size k) a
  | [], k, a, _, hk, _, h => by
    have : k = n := by simpa using hk
    subst this
    exact ⟨rfl, h⟩
  | o :: l, k, a, hl, hk, inv, h => by
    have hB' := hB
    simp only [quietB, Bool.and_eq_true, decide_eq_true_eq] at hB'
    obtain ⟨⟨⟨⟨hsel, hn⟩, hh⟩, hr⟩, hlast⟩ := hB'
    have hkn : k < n := by simp only [List.length_cons] at hk; omega
    have h0 : ops[k]? = some o := by simpa using (hl 0 (by simp)).symm
    have hrk := List.all_eq_true.1 hr k (List.mem_range.2 hkn)
    simp only [Bool.and_eq_true] at hrk
    have hr' : k ∈ Region.ready .any ops (listedQ ops.size k) := by simpa using hrk.1
    have hst : qOp P ops C k (wpQuiet P ops C Lq l) a := by unfold qOp; simp only [h0]; exact h
    obtain ⟨v, hy, hK⟩ := yieldsIn_of_qOp h0 hst
    refine headQ_take h0 (Region.noSelect_spec hsel) hh hkn (fun listed' a' hL => ?_) l.length _ a inv (Region.free_spec h0 hrk.2) hr' hy ?_
    · rw [hL.1]
      intro j hj
      have := List.all_eq_true.1 hlast j hj
      simpa using this
    · exact quiet_lex hB l (k + 1) _ (fun j hj => by have := hl (j + 1) (by simp; omega); simpa [Nat.add_assoc, Nat.add_comm 1 j] using this) (by simp only [List.length_cons] at hk; omega) (inv.set hr' hkn) hK

/-- a region that draws: the first n operations are quiet (reads, calls that only read), in whatever order; all others wait for them -/
theorem region_quiet_head {id : Nat} {Q : Exit → Act → World → Prop} {a : Act} {w : World} {l : List Oper} (n : Nat) (hm : P.follows .mixedOrders = true) (hB : quietB l.toArray n = true)
    (h : wpQuiet P l.toArray (fun w' => ∃ k, w' = w.drewN k) (fun a' => ∀ k, wpAny P .any l.toArray Q (l.toArray.size - n) (listedQ l.toArray.size n) a' (w.drewN k)) (l.take n) a) : (Code.region id l.toArray true).wp P Q a w := by
  have hB' := hB
  simp only [quietB, Bool.and_eq_true, decide_eq_true_eq] at hB'
  have hn : n < l.length := by simpa using hB'.1.1.1.2
  have htl : (l.take n).length = n := by simp; omega
  have inv0 : HeadInv .any l.toArray n (listedQ l.toArray.size 0) :=
    ⟨by simp [listedQ], fun j oj _ hl => (by rw [listedQ, getD_replicate_false] at hl; cases hl), fun t _ ht => getD_in (by simpa [listedQ] using ht) (getD_replicate_false _ _)⟩
  have H := quiet_lex hB (l.take n) 0 a (fun j hj => by
    have hj' : j < n := by rw [htl] at hj; exact hj
    simp [hj']) (by simpa using htl) inv0 h
  refine wp_region_any hm ?_
  have := wpAny_of_headQ (Q' := Q) (g := l.toArray.size - n) (fun listed a' w' hw' hL => by
    obtain ⟨k, rfl⟩ := hw'
    rw [hL.1]; exact hL.2 k) _ _ _ { w with drawn := w.drawn + 1 } ⟨1, rfl⟩ H
  have hs : n < l.toArray.size := by simpa using hn
  rw [htl, Nat.add_sub_cancel' (Nat.le_of_lt hs)] at this
  exact this
/-- a region that draws, whose operations are all quiet in a class of worlds -/
theorem region_quiet_class {id : Nat} {Q : Exit → Act → World → Prop} {a : Act} {w : World} {l : List Oper} (C : World → Prop) (hm : P.follows .mixedOrders = true) (hB : Region.lexB .any l.toArray = true) (hC : C w.drew)
    (h : wpQuiet P l.toArray C (fun a' => ∀ w', C w' → Q .normal a' w') l a) : (Code.region id l.toArray true).wp P Q a w :=
  wp_region_quiet (C := C) hm hB hC (by simpa using h)
/-- one operation that is carried out -/
theorem quiet_do {Q : Act → Prop} {a : Act} {o : Oper} {rest : List Oper} (v : Value) (hw : Region.wanted o (yielded ops a.tmps) = true) (h : ∀ w, C w → o.quietAt P a C w v) (hK : wpQuiet P ops C Q rest (a.put o.dst v)) : wpQuiet P ops C Q (o :: rest) a :=
  wpQuiet_step (fun K hk => by rw [if_pos hw]; exact ⟨v, h, hk _ hK⟩)
/-- one that is passed over -/
theorem quiet_skip {Q : Act → Prop} {a : Act} {o : Oper} {rest : List Oper} (hw : Region.wanted o (yielded ops a.tmps) = false) (hK : wpQuiet P ops C Q rest (a.put o.dst undef)) : wpQuiet P ops C Q (o :: rest) a :=
  wpQuiet_step (fun K hk => by rw [if_neg (by rw [hw]; exact Bool.false_ne_true)]; exact hk _ hK)
end
end Go.Proofs.YtjhlijobdihplaaGreatDoor
