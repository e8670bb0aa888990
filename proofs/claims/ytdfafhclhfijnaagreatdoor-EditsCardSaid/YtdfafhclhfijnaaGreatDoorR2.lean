import Derived.Test.YtdfafhclhfijnaaGreatDoorR1
import Derived.BigQuiet
import Derived.Deep.QuietTactic
namespace Go.Proofs.YtdfafhclhfijnaaGreatDoor
open Go.RowKit
def letterB (c : UInt8) : Bool := decide (97 ≤ (c.toNat : Int)) && decide ((c.toNat : Int) ≤ 122)
def lettersB (s : List UInt8) : Bool := s.all letterB
def smallB (s : ByteArray) (m : Int) : Bool := lettersB s.data.toList && (decide (0 < s.size) && decide ((s.size : Int) ≤ m))

theorem take_byte (s : ByteArray) (k : Nat) (h : k < s.size) : s.data.toList.take (k + 1) = s.data.toList.take k ++ [s[k]] := by
  rw [List.take_succ_eq_append_getElem (by simpa using h)]; rfl
theorem letters_no (s : ByteArray) (k : Nat) (h : k < s.size) (hc : letterB s[k] = false) : lettersB s.data.toList = false := by
  rw [lettersB, List.all_eq_false]
  exact ⟨s[k], by simp [ByteArray.getElem_eq_getElem_data], by simp [hc]⟩
theorem letters_yes (s : ByteArray) (k : Nat) (h : k < s.size) (hl : lettersB (s.data.toList.take k) = true) (hc : letterB s[k] = true) : lettersB (s.data.toList.take (k + 1)) = true := by
  rw [take_byte s k h]
  unfold lettersB at hl ⊢
  rw [List.all_append, hl]
  simp [hc]
theorem letterB_yes {c : UInt8} (h : 97 ≤ (c.toNat : Int) ∧ (c.toNat : Int) ≤ 122) : letterB c = true := by simp only [letterB, h.1, h.2, decide_true, Bool.and_self]
theorem letterB_no {c : UInt8} (h : (c.toNat : Int) < 97 ∨ 122 < (c.toNat : Int)) : letterB c = false := by
  unfold letterB
  rcases h with h | h
  · rw [decide_eq_false (by omega)]; rfl
  · rw [decide_eq_false (p := (c.toNat : Int) ≤ 122) (by omega)]; simp

set_option maxHeartbeats 400000 in
theorem refSmall_any (s : ByteArray) (m : Int) (w : World) (hs : s.size ≤ maxLen) :
    Calls Tryz.prog 27 #[.string s, .int .i64 m] w fun e w' => e = .returned (.bool (smallB s m)) ∧ w' = w := by
  unfold maxLen at hs
  go_enter Tryz.func27, Tryz.ntmps27
  go_wp2
  go_loop [5] (fun i => ∃ k : Nat, k ≤ s.size ∧ i = .int .i64 k ∧ lettersB (s.data.toList.take k) = true) (fun i => s.size - (intOf i).toNat)
  case atStart => exact ⟨0, Nat.zero_le _, rfl, rfl⟩
  case round =>
    obtain ⟨k, hk, rfl, hl⟩ := hrel
    by_cases hlt : k < s.size
    · by_cases h1 : (s[k].toNat : Int) < 97
      · go_wp2
        go_ret
        exact ⟨ret_bool (by rw [smallB, letters_no s k hlt (letterB_no (.inl h1))]; rfl), rfl⟩
      · by_cases h2 : 122 < (s[k].toNat : Int)
        · go_wp2
          go_ret
          exact ⟨ret_bool (by rw [smallB, letters_no s k hlt (letterB_no (.inr h2))]; rfl), rfl⟩
        · go_wp2
          go_round
          case rel => exact ⟨k + 1, by omega, by go_num, letters_yes s k hlt hl (letterB_yes ⟨by omega, by omega⟩)⟩
          case measure => simp [intOf]; omega
    · have hall : lettersB s.data.toList = true := by
        rw [List.take_of_length_le (by simp; omega)] at hl; exact hl
      have H : Hid (lettersB s.data.toList = true) := hall
      clear hall hl
      by_cases h0 : 0 < s.size
      · go_wp2
        go_ret
        exact ⟨ret_bool (by rw [smallB, H.out]; simp [h0]), rfl⟩
      · go_wp2
        go_ret
        exact ⟨ret_bool (by rw [smallB, H.out]; simp [h0]), rfl⟩

def beginsB (s t : ByteArray) : Bool := decide (t.size ≤ s.size) && eqS (s.extract 0 t.size) t
set_option maxHeartbeats 400000 in
theorem begins_any (s t : ByteArray) (w : World) (_hs : s.size ≤ maxLen) (_ht : t.size ≤ maxLen) :
    Calls Tryz.prog 46 #[.string s, .string t] w fun e w' => e = .returned (.bool (beginsB s t)) ∧ w' = w := by
  unfold maxLen at _hs _ht
  by_cases h : t.size ≤ s.size
  all_goals
    go_enter Tryz.func46, Tryz.ntmps46
    go_wp2
    go_ret
    exact ⟨ret_bool (by simp [beginsB, eqS, h]), rfl⟩

def pickI (c n : Int) : Int := if c < 0 then -((c + 1).tmod n) else c % n
theorem pickI_lt (c n : Int) (hn : 0 < n) : 0 ≤ pickI c n ∧ pickI c n < n := by
  unfold pickI
  split
  · have h1 := Int.tmod_nonneg (a := -(c + 1)) n (by omega)
    rw [Int.neg_tmod] at h1
    have h2 := Int.tmod_lt_of_pos (-(c + 1)) hn
    rw [Int.neg_tmod] at h2
    exact ⟨h1, h2⟩
  · exact ⟨Int.emod_nonneg _ (by omega), Int.emod_lt_of_pos _ hn⟩
set_option maxHeartbeats 400000 in
theorem pick_any (c n : Int) (w : World) (hc : -9223372036854775808 ≤ c) (hc2 : c < 9223372036854775808) (hn : 0 < n) (hn2 : n ≤ 5000) :
    Calls Tryz.prog 9 #[.int .i64 c, .int .i64 n] w fun e w' => e = .returned (.int .i64 (pickI c n)) ∧ w' = w := by
  by_cases h : c < 0
  · go_enter Tryz.func9, Tryz.ntmps9
    go_wp2
    go_ret
    exact ⟨ret_int (by simp only [pickI, h, if_true]), rfl⟩
  · go_enter Tryz.func9, Tryz.ntmps9
    go_wp2
    go_ret
    exact ⟨ret_int (by rw [pickI, if_neg (by omega)]), rfl⟩

/-- A slice of texts. -/
def str (l : List ByteArray) (i : Nat) : ByteArray := l.getD i ByteArray.empty
def Tx (t : TypeId) (w : World) (v : Value) (l : List ByteArray) : Prop := w.ownsRow 0 t 1 v l.length (l.map Value.string)
theorem Tx.shape {t : TypeId} {w : World} {a : Option Addr} {n cap : Nat} {l : List ByteArray} (h : Tx t w (.slice a n cap) l) : n = l.length ∧ (l ≠ [] → ∃ g, a = some ⟨g, 0, none⟩) := by
  obtain ⟨_, ⟨he, hn⟩ | ⟨g, c, cur, he, _⟩⟩ := h
  · cases he
    exact ⟨hn.symm, fun h => absurd (List.length_eq_zero_iff.1 hn) h⟩
  · cases he
    exact ⟨rfl, fun _ => ⟨g, rfl⟩⟩
theorem Tx.cell {t : TypeId} {w : World} {g n cap : Nat} {l : List ByteArray} (h : Tx t w (.slice (some ⟨g, 0, none⟩) n cap) l) (i : Nat) (hi : i < l.length) :
    w.cell? ⟨g, i, none⟩ = some (.string (str l i)) := by
  obtain ⟨hl, ⟨he, _⟩ | ⟨g', c, cur, he, _, hb, h1, _, hs, ht⟩⟩ := h
  · cases he
  · cases he
    have hc : cur.toList[i]? = (l.map Value.string)[i]? := by
      rw [← ht, List.getElem?_take_of_lt (by omega)]
    simpa [World.cell?, hb, hi, str, List.getD] using hc
theorem Tx.below {t : TypeId} {w w' : World} {B : Nat} {v : Value} {l : List ByteArray} (h : Tx t w v l) (hB : w.heap.size ≤ B) (hb : Below B w w') : Tx t w' v l := by
  obtain ⟨hl, ⟨he, hn⟩ | ⟨g', c, cur, he, h0, hb', r⟩⟩ := h
  · exact ⟨hl, .inl ⟨he, hn⟩⟩
  · refine ⟨hl, .inr ⟨g', c, cur, he, h0, ?_, r⟩⟩
    rw [hb.block g' (by have := (Array.getElem?_eq_some_iff.1 hb').1; omega), hb']

theorem ext_str {a b : List ByteArray} (hl : a.length = b.length) (h : ∀ i, i < a.length → str a i = str b i) : a = b := by
  refine List.ext_getElem hl fun i h1 h2 => ?_
  have := h i h1
  simpa [str, List.getD, h1, h2] using this

/-- Two slices that hold the same texts are the same: true. (Of others nothing is asked.) -/
theorem same_any (l : List ByteArray) (a b : Option Addr) (ca cb : Nat) (w : World) (hA : Tx 9 w (.slice a l.length ca) l) (hB : Tx 9 w (.slice b l.length cb) l) (hl : l.length ≤ 20000) :
    Calls Tryz.prog 18 #[.slice a l.length ca, .slice b l.length cb] w fun e w' => e = .returned (.bool true) ∧ ∃ n, w' = w.drewN n := by
  go_enter Tryz.func18, Tryz.ntmps18
  go_wp2
  go_loopw [5] (fun i wr => ∃ k : Nat, k ≤ l.length ∧ i = .int .i64 k ∧ ∃ n, wr = w.drewN n) (fun i _ => l.length - (intOf i).toNat)
  case atStart => exact ⟨0, Nat.zero_le _, rfl, 0, rfl⟩
  case round =>
    obtain ⟨k, hk, rfl, n, rfl⟩ := hrel
    by_cases hlt : k < l.length
    · obtain ⟨g, rfl⟩ := hA.shape.2 (by intro h; simp [h] at hlt)
      obtain ⟨g2, rfl⟩ := hB.shape.2 (by intro h; simp [h] at hlt)
      have c1 := hA.cell k hlt
      have c2 := hB.cell k hlt
      go_wp2
      go_quiet (fail)
      go_wp2
      go_roundw
      case rel => exact ⟨k + 1, by omega, by go_num, _, rfl⟩
      case measure => simp [intOf]; omega
    · go_wp2
      go_ret
      exact ⟨rfl, n, rfl⟩
end Go.Proofs.YtdfafhclhfijnaaGreatDoor
