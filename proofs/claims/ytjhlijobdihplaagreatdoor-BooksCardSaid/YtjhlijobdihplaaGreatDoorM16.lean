import Derived.Test.YtjhlijobdihplaaGreatDoorM02
import Derived.Laws.BytesArg
import Derived.Deep.OwnRows
namespace Go.Proofs.YtjhlijobdihplaaGreatDoor
open Go.RowKit

theorem ret_str {a b : ByteArray} (h : a = b) : Ending.returned (.string a) = .returned (.string b) := by rw [h]

/-- a number's digits, so many at most and one -/
def decB : Nat → Int → ByteArray
  | 0, n => strOfNums [48 + n % 10]
  | f + 1, n => if n < 10 then strOfNums [48 + n % 10] else decB f (n / 10) ++ strOfNums [48 + n % 10]

theorem one_size (x : Int) : (strOfNums [x]).size = 1 := rfl
theorem app_size (a b : ByteArray) : (a ++ b).size = a.size + b.size := ByteArray.size_append
theorem decB_size : ∀ (f : Nat) (n : Int), (decB f n).size ≤ f + 1
  | 0, n => by unfold decB; rw [one_size]; omega
  | f + 1, n => by
    have ih := decB_size f (n / 10)
    unfold decB
    split
    · rw [one_size]; omega
    · rw [app_size, one_size]; omega

set_option maxRecDepth 100000 in
set_option maxHeartbeats 1000000 in
theorem decimal_nat : ∀ (f : Nat) (n : Int) (w : World), f ≤ 30 → 0 ≤ n → n < 10 ^ (f + 1) → n < 9223372036854775808 →
    Calls Tryz.prog 51 #[.int .i64 n] w fun e w' => e = .returned (.string (decB f n)) ∧ Below w.heap.size w w'
  | 0, n, w, _, h0, h1, h2 => by
    have h1 : n < 10 := by simpa using h1
    have hcv := run_convert_bytes_arg (P := Tryz.prog) (w.alloc (.cells #[.int .u8 (48 + n % 10)] 5)) 86 5 Tryz.underlying86 Tryz.underlying5 w.heap.size 0 1 1 [48 + n % 10] rfl (fun i hi => by
      have e : i = 0 := by omega
      subst e
      simp) 9 Tryz.underlying9
    go_enter Tryz.func51, Tryz.ntmps51
    go_wp2_with fail
    go_ret
    exact ⟨rfl, (Below.refl _ _).alloc (Nat.le_refl _) _⟩
  | f + 1, n, w, hf, h0, h1, h2 => by
    have hcv := run_convert_bytes_arg (P := Tryz.prog) (w.alloc (.cells #[.int .u8 (48 + n % 10)] 5)) 86 5 Tryz.underlying86 Tryz.underlying5 w.heap.size 0 1 1 [48 + n % 10] rfl (fun i hi => by
      have e : i = 0 := by omega
      subst e
      simp) 9 Tryz.underlying9
    by_cases hn : n < 10
    · have HE : Hid (decB (f + 1) n = strOfNums [48 + n % 10]) := by show decB (f + 1) n = _; simp [decB, hn]
      go_enter Tryz.func51, Tryz.ntmps51
      go_wp2_with fail
      go_ret
      exact ⟨by rw [HE.out]; rfl, (Below.refl _ _).alloc (Nat.le_refl _) _⟩
    · have HE : Hid (decB (f + 1) n = decB f (n / 10) ++ strOfNums [48 + n % 10]) := by show decB (f + 1) n = _; simp [decB, hn]
      have ih := decimal_nat f (n / 10) (w.alloc (.cells #[.int .u8 (48 + n % 10)] 5)) (by omega) (by omega) (by rw [Int.pow_succ] at h1; omega) (by omega)
      have hs1 := decB_size f (n / 10)
      have hs2 := one_size (48 + n % 10)
      clear h1
      go_enter Tryz.func51, Tryz.ntmps51
      go_wp2_with (go_at_call 51; refine ih.mono ?_; clear ih; rintro e w1 ⟨rfl, hb⟩)
      go_ret
      exact ⟨by rw [HE.out]; rfl, ((Below.refl _ _).alloc (Nat.le_refl _) _).trans (hb.mono (by simp))⟩

def minusB : ByteArray := ⟨#[45]⟩
/-- a number as a text -/
def decL (n : Int) : ByteArray := if n < 0 then (if n = -9223372036854775808 then minusB ++ decB 19 9223372036854775808 else minusB ++ decB 19 (-n)) else decB 19 n
set_option maxRecDepth 100000 in
set_option maxHeartbeats 1000000 in
theorem decimal_any (n : Int) (w : World) (h0 : -9223372036854775808 ≤ n) (h1 : n < 9223372036854775808) :
    Calls Tryz.prog 51 #[.int .i64 n] w fun e w' => e = .returned (.string (decL n)) ∧ Below w.heap.size w w' := by
  by_cases hn : n < 0
  · by_cases hm : n = -9223372036854775808
    · subst hm
      go_enter Tryz.func51, Tryz.ntmps51
      go_wp2_with fail
      go_ret
      exact ⟨ret_str (by decide +kernel), Below.refl _ _⟩
    · have HE : Hid (decL n = minusB ++ decB 19 (-n)) := by show decL n = _; simp [decL, hn, hm]
      have ih := decimal_nat 19 (-n) w (by omega) (by omega) (by omega) (by omega)
      have hs1 := decB_size 19 (-n)
      have hm2 : (n == -9223372036854775808) = false := by simp [hm]
      go_enter Tryz.func51, Tryz.ntmps51
      go_wp2_with (go_at_call 51; refine ih.mono ?_; clear ih; rintro e w1 ⟨rfl, hb⟩)
      go_ret
      exact ⟨by rw [HE.out]; rfl, hb⟩
  · have e : decL n = decB 19 n := by simp [decL, hn]
    rw [e]
    exact decimal_nat 19 n w (by omega) (by omega) (by omega) (by omega)
end Go.Proofs.YtjhlijobdihplaaGreatDoor
namespace Go.Proofs.YtjhlijobdihplaaGreatDoor
open Go.RowKit Go.Deep

def hashStep (h : Int) (b : UInt8) : Int := IntKind.u64.wrap (bits .xor .u64 h (IntKind.u64.wrap (b.toNat : Int)) * 1099511628211)
def hashN (l : List UInt8) : Int := l.foldl hashStep 14695981039346656037
def hashTo (s : ByteArray) (k : Nat) : Int := hashN (s.data.toList.take k)
theorem hashTo_succ (s : ByteArray) (k : Nat) (h : k < s.size) : hashTo s (k + 1) = hashStep (hashTo s k) s[k] := by
  have h' : k < s.data.toList.length := by simpa using h
  unfold hashTo hashN
  rw [List.take_succ_eq_append_getElem h', List.foldl_append]
  simp
  rfl
def hashB (h : Int) (i : Nat) : Int := h / 2 ^ (56 - 8 * i) % 256
/-- the eight bytes that stand for a text -/
def hashL (s : ByteArray) : ByteArray := strOfNums ((List.range 8).map (hashB (hashN s.data.toList)))
theorem hashTo_all (s : ByteArray) : hashTo s s.size = hashN s.data.toList := by
  unfold hashTo
  exact congrArg hashN (List.take_of_length_le (Nat.le_of_eq (Array.length_toList (xs := s.data))))
theorem Tryz.infoB : (Tryz.prog.info? 5).map (fun i => (i.zero, i.size, i.bytes)) = some (some (.int .u8 0), 1, 1) := by kernel_rfl

set_option maxRecDepth 100000 in
set_option maxHeartbeats 1000000 in
theorem hash_any (s : ByteArray) (w : World) (hs : s.size ≤ 1000000000) :
    Calls Tryz.prog 27 #[.string s] w fun e w' => e = .returned (.string (hashL s)) ∧ Below w.heap.size w w' := by
  go_enter Tryz.func27, Tryz.ntmps27
  go_wp2_with fail
  go_loopg [3, 4] s.size (fun q h i wr => ∃ k : Nat, q + k = s.size ∧ i = .int .i64 k ∧ h = .int .u64 (hashTo s k) ∧ wr = w)
  case atStart => exact ⟨0, by omega, rfl, rfl, rfl⟩
  case round =>
    obtain ⟨k, hq, rfl, rfl, rfl⟩ := hrel
    by_cases hlt : k < s.size
    · have HS : Hid (hashTo s (k + 1) = hashStep (hashTo s k) s[k]) := hashTo_succ s k hlt
      go_wp2
      go_roundg (gk - 1)
      case rel => exact ⟨k + 1, by omega, by go_num, by rw [HS.out]; rfl, rfl⟩
      case measure => omega
    · have hmk : ∀ W : World, Sem.run Tryz.prog (Instr.makeSlice 86 (.int .i64 8) (.int .i64 8)) W = .ok (.slice (some ⟨W.heap.size, 0, none⟩) 8 8) (W.alloc (.cells (madeCells #[.int .u8 0] 8) 5)) := fun W =>
        run_make_row' (P := Tryz.prog) 86 5 (.int .u8 0) 1 Tryz.underlying86 Tryz.infoB rfl .i64 .i64 8 (by decide) (by decide) W
      have hek : k = s.size := by omega
      subst hek
      obtain ⟨wo, ewo⟩ : ∃ wo : World, wo = wr := ⟨_, rfl⟩
      subst ewo
      go_wp2
      have hr0 := World.rowIs_made wo (.int .u8 0) 8 5
      have hb0 : Below wo.heap.size wo (wo.alloc (.cells (madeCells #[.int .u8 0] 8) 5)) := (Below.refl _ _).alloc (Nat.le_refl _) _
      clear hmk
      go_loopg [6] 8 (fun q i wx => ∃ j : Nat, q + j = 8 ∧ i = .int .i64 j ∧ wx.rowIs wo.heap.size 5 8 (fun i => if i < j then .int .u8 (hashB (hashTo s s.size) i) else .int .u8 0) ∧ Below wo.heap.size wo wx)
      case atStart => exact ⟨0, rfl, rfl, hr0, hb0⟩
      case round =>
        obtain ⟨j, hj, rfl, hrow, hb⟩ := hrel
        by_cases hlt2 : j < 8
        · have c0 := hrow.cell hlt2
          have c1 := hrow.frozen j
          have hrow2 := hrow.set j (.int .u8 (hashTo s s.size / 2 ^ (56 - 8 * j) % 256))
          have hb2 := hb.setCell (p := ⟨wo.heap.size, j, none⟩) (Nat.le_refl _) (.int .u8 (hashTo s s.size / 2 ^ (56 - 8 * j) % 256))
          have HR : Hid (_ ∧ _) := ⟨hrow2, hb2⟩
          clear hrow hrow2 hb hb2
          go_wp2
          go_roundg (gk - 1)
          case rel =>
            refine ⟨j + 1, by omega, by go_num, HR.out.1.congr (fun i hi => ?_), HR.out.2⟩
            by_cases e : i = j
            · subst e; simp [hashB]
            · have e2 : (i < j + 1) = (i < j) := by simp; omega
              simp [e, e2]
          case measure => omega
        · have e8 : j = 8 := by omega
          subst e8
          have hcv := run_convert_bytes_arg (P := Tryz.prog) wr 86 5 Tryz.underlying86 Tryz.underlying5 wo.heap.size 0 8 8 ((List.range 8).map (hashB (hashTo s s.size))) rfl (fun i hi => by
            rw [Nat.zero_add, hrow.cell hi, if_pos hi]
            simp [List.getD, hi]) 9 Tryz.underlying9
          have HE : Hid (hashL s = strOfNums ((List.range 8).map (hashB (hashTo s s.size)))) := by show hashL s = _; rw [hashTo_all]; rfl
          generalize strOfNums ((List.range 8).map (hashB (hashTo s s.size))) = r at *
          go_wp2
          go_ret
          exact ⟨by rw [HE.out]; rfl, hb⟩
end Go.Proofs.YtjhlijobdihplaaGreatDoor
