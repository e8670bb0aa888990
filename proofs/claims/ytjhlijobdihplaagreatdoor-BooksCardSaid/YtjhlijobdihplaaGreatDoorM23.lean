import Derived.Test.YtjhlijobdihplaaGreatDoorM17
import Derived.Test.YtjhlijobdihplaaGreatDoorM04
import Derived.Test.YtjhlijobdihplaaGreatDoorM07
import Derived.Test.YtjhlijobdihplaaGreatDoorL1
import Derived.Test.YtjhlijobdihplaaGreatDoorM19
namespace Go.Proofs.YtjhlijobdihplaaGreatDoor
open Go.RowKit Go.Maps Go.Shelf Go.Sort

/-- strconv.Itoa: the document's decimal text -/
theorem itoa_any (n : Int) (w : World) (hT : TabT w) (h0 : -9223372036854775808 ≤ n) (h1 : n < 9223372036854775808) :
    Calls Tryz.prog 101 #[.int .i64 n] w fun e w' => e = .returned (.string (decL n)) ∧ Below w.heap.size w w' := by
  have h := Any.strconv_Itoa Tryz.laysItoa n h0 (by omega) w hT
  change Calls Tryz.prog 101 _ _ _ at h
  rw [decL_itoa n h0 (by omega)] at h
  refine h.mono ?_
  rintro e w' ⟨rfl, k, os, rfl⟩
  exact ⟨rfl, Lib.below_grow _ _ (Nat.le_refl _) _ _⟩

set_option maxRecDepth 100000 in
set_option maxHeartbeats 2000000 in
theorem line_any (z : Reg) (w : World) (hT : TabT w) (h1 : z.n.size ≤ 5000) (h2 : z.f.size ≤ 5000) (h3 : z.v.size ≤ 5000) (hc : -9223372036854775808 ≤ z.c ∧ z.c < 9223372036854775808) (hr : -9223372036854775808 ≤ z.r ∧ z.r < 9223372036854775808) :
    Calls Tryz.prog 88 #[.agg #[.string z.n, .string z.f, .int .i64 z.c, .int .i64 z.r, .string z.v]] w fun e w' => e = .returned (.string (line1 z)) ∧ Below w.heap.size w w' := by
  have e1 : (ByteArray.mk #[46]).size = 1 := rfl
  have e3 : (ByteArray.mk #[32]).size = 1 := rfl
  have e4 : (ByteArray.mk #[10]).size = 1 := rfl
  have HC : Hid (∀ w', (w.alloc (.cells #[.string z.n, .string z.f, .int .i64 z.c, .int .i64 z.r, .string z.v] 99)).grownBy w' none → five w' w.heap.size z ∧ TabT w') := by
    intro w' hg
    have hf : five (w.alloc (.cells #[.string z.n, .string z.f, .int .i64 z.c, .int .i64 z.r, .string z.v] 99)) w.heap.size z := ⟨by simp, by simp, by simp, by simp, by simp⟩
    refine ⟨five_own hf hg (fun r e => by cases e), tabT_below hT ?_⟩
    exact ((Below.refl _ w).alloc (Nat.le_refl _) _).grown hg (by simp) (fun k e => by cases e)
  have HI : Hid (∀ w', (w.alloc (.cells #[.string z.n, .string z.f, .int .i64 z.c, .int .i64 z.r, .string z.v] 99)).grownBy w' none → ∀ k : Int, (-9223372036854775808 ≤ k ∧ k < 9223372036854775808) → Calls Tryz.prog 101 #[.int .i64 k] w' fun e w'' => e = .returned (.string (decL k)) ∧ (w.alloc (.cells #[.string z.n, .string z.f, .int .i64 z.c, .int .i64 z.r, .string z.v] 99)).grownBy w'' none) := by
    intro w' hg k hk
    refine (itoa_any k w' (HC.out w' hg).2 hk.1 hk.2).mono ?_
    rintro e w'' ⟨rfl, hb⟩
    exact ⟨rfl, hb.os.trans hg.os, hb.tape.trans hg.tape, hb.output.trans hg.output, Nat.le_trans hg.size hb.size, fun k hk hr => (hb.block k (Nat.lt_of_lt_of_le hk hg.size)).trans (hg.block k hk hr)⟩
  clear hT
  go_enter Tryz.func88, Tryz.ntmps88
  go_wp2
  refine region_quiet_class (fun w' => (w.alloc (.cells #[.string z.n, .string z.f, .int .i64 z.c, .int .i64 z.r, .string z.v] 99)).grownBy w' none) (by kernel_rfl) (by kernel_rfl) ⟨rfl, rfl, rfl, Nat.le_refl _, fun _ _ _ => rfl⟩ ?_
  refine quiet_do (.pointer (some ⟨w.heap.size, 2, none⟩)) rfl (fun w' hw' => ?_) ?_
  · go_simp
  go_frame
  refine quiet_do (.pointer (some ⟨w.heap.size, 2, none⟩)) rfl (fun w' hw' => ?_) ?_
  · go_simp
  go_frame
  refine quiet_do (.int .i64 z.c) rfl (fun w' hw' => ?_) ?_
  · obtain ⟨⟨z0, z1, z2, z3, z4⟩, _⟩ := HC.out w' hw'
    go_simp
  go_frame
  refine quiet_do (.string (decL z.c)) rfl (fun w' hw' => ?_) ?_
  · go_simp
    exact HI.out w' hw' _ hc
  go_frame
  refine quiet_do (.pointer (some ⟨w.heap.size, 2, none⟩)) rfl (fun w' hw' => ?_) ?_
  · go_simp
  go_frame
  refine quiet_do (.pointer (some ⟨w.heap.size, 3, none⟩)) rfl (fun w' hw' => ?_) ?_
  · go_simp
  go_frame
  refine quiet_do (.int .i64 z.r) rfl (fun w' hw' => ?_) ?_
  · obtain ⟨⟨z0, z1, z2, z3, z4⟩, _⟩ := HC.out w' hw'
    go_simp
  go_frame
  refine quiet_do (.string (decL z.r)) rfl (fun w' hw' => ?_) ?_
  · go_simp
    exact HI.out w' hw' _ hr
  go_frame
  refine quiet_do (.string (decL z.c)) rfl (fun w' hw' => ?_) ?_
  · go_simp
  go_frame
  refine quiet_do (.string (decL z.r)) rfl (fun w' hw' => ?_) ?_
  · go_simp
  go_frame
  refine wpQuiet_nil ?_
  intro w1 hw1
  have HL : Hid (line1 z = z.n ++ ⟨#[46]⟩ ++ z.f ++ ⟨#[32]⟩ ++ decL z.c ++ ⟨#[32]⟩ ++ decL z.r ++ ⟨#[32]⟩ ++ decL (z.v.size : Int) ++ ⟨#[32]⟩ ++ z.v ++ ⟨#[10]⟩) := rfl
  have HI3 : Hid (∀ w', (w.alloc (.cells #[.string z.n, .string z.f, .int .i64 z.c, .int .i64 z.r, .string z.v] 99)).grownBy w' none → Calls Tryz.prog 101 #[.int .i64 (z.v.size : Int)] w' fun e w'' => e = .returned (.string (decL (z.v.size : Int))) ∧ (w.alloc (.cells #[.string z.n, .string z.f, .int .i64 z.c, .int .i64 z.r, .string z.v] 99)).grownBy w'' none) := fun w' hw' => HI.out w' hw' _ (by omega)
  have y1 := decL_size z.c
  have y2 := decL_size z.r
  have y3 := decL_size (z.v.size : Int)
  have happ := app_size
  clear HI
  generalize decL z.c = t1 at *
  generalize decL z.r = t2 at *
  generalize decL (z.v.size : Int) = t3 at *
  go_wp2
  refine region_quiet_class (fun w' => (w.alloc (.cells #[.string z.n, .string z.f, .int .i64 z.c, .int .i64 z.r, .string z.v] 99)).grownBy w' none) (by kernel_rfl) (by kernel_rfl) ⟨hw1.os, hw1.tape, hw1.output, hw1.size, hw1.block⟩ ?_
  refine quiet_do (.pointer (some ⟨w.heap.size, 0, none⟩)) rfl (fun w' hw' => ?_) ?_
  · go_simp
  go_frame
  refine quiet_do (.string z.n) rfl (fun w' hw' => ?_) ?_
  · obtain ⟨⟨z0, z1, z2, z3, z4⟩, _⟩ := HC.out w' hw'
    go_simp
  go_frame
  refine quiet_do (.string (z.n ++ ⟨#[46]⟩)) rfl (fun w' hw' => ?_) ?_
  · go_simp
    rw [if_neg (by omega)]
    exact ⟨rfl, rfl⟩
  go_frame
  refine quiet_do (.pointer (some ⟨w.heap.size, 1, none⟩)) rfl (fun w' hw' => ?_) ?_
  · go_simp
  go_frame
  refine quiet_do (.string z.f) rfl (fun w' hw' => ?_) ?_
  · obtain ⟨⟨z0, z1, z2, z3, z4⟩, _⟩ := HC.out w' hw'
    go_simp
  go_frame
  refine quiet_do (.string (z.n ++ ⟨#[46]⟩ ++ z.f)) rfl (fun w' hw' => ?_) ?_
  · go_simp
    rw [if_neg (by omega)]
    exact ⟨rfl, rfl⟩
  go_frame
  refine quiet_do (.string (z.n ++ ⟨#[46]⟩ ++ z.f ++ ⟨#[32]⟩)) rfl (fun w' hw' => ?_) ?_
  · go_simp
    rw [if_neg (by omega)]
    exact ⟨rfl, rfl⟩
  go_frame
  refine quiet_do (.string t1) rfl (fun w' hw' => ?_) ?_
  · go_simp
  go_frame
  refine quiet_do (.string (z.n ++ ⟨#[46]⟩ ++ z.f ++ ⟨#[32]⟩ ++ t1)) rfl (fun w' hw' => ?_) ?_
  · go_simp
    rw [if_neg (by omega)]
    exact ⟨rfl, rfl⟩
  go_frame
  refine quiet_do (.string (z.n ++ ⟨#[46]⟩ ++ z.f ++ ⟨#[32]⟩ ++ t1 ++ ⟨#[32]⟩)) rfl (fun w' hw' => ?_) ?_
  · go_simp
    rw [if_neg (by omega)]
    exact ⟨rfl, rfl⟩
  go_frame
  refine quiet_do (.string t2) rfl (fun w' hw' => ?_) ?_
  · go_simp
  go_frame
  refine quiet_do (.string (z.n ++ ⟨#[46]⟩ ++ z.f ++ ⟨#[32]⟩ ++ t1 ++ ⟨#[32]⟩ ++ t2)) rfl (fun w' hw' => ?_) ?_
  · go_simp
    rw [if_neg (by omega)]
    exact ⟨rfl, rfl⟩
  go_frame
  refine quiet_do (.string (z.n ++ ⟨#[46]⟩ ++ z.f ++ ⟨#[32]⟩ ++ t1 ++ ⟨#[32]⟩ ++ t2 ++ ⟨#[32]⟩)) rfl (fun w' hw' => ?_) ?_
  · go_simp
    rw [if_neg (by omega)]
    exact ⟨rfl, rfl⟩
  go_frame
  refine quiet_do (.pointer (some ⟨w.heap.size, 4, none⟩)) rfl (fun w' hw' => ?_) ?_
  · go_simp
  go_frame
  refine quiet_do (.string z.v) rfl (fun w' hw' => ?_) ?_
  · obtain ⟨⟨z0, z1, z2, z3, z4⟩, _⟩ := HC.out w' hw'
    go_simp
  go_frame
  refine quiet_do (.int .i64 (z.v.size : Int)) rfl (fun w' hw' => ?_) ?_
  · go_simp
  go_frame
  refine quiet_do (.string t3) rfl (fun w' hw' => ?_) ?_
  · go_simp
    exact HI3.out w' hw'
  go_frame
  refine quiet_do (.string (z.n ++ ⟨#[46]⟩ ++ z.f ++ ⟨#[32]⟩ ++ t1 ++ ⟨#[32]⟩ ++ t2 ++ ⟨#[32]⟩ ++ t3)) rfl (fun w' hw' => ?_) ?_
  · go_simp
    rw [if_neg (by omega)]
    exact ⟨rfl, rfl⟩
  go_frame
  refine quiet_do (.string (z.n ++ ⟨#[46]⟩ ++ z.f ++ ⟨#[32]⟩ ++ t1 ++ ⟨#[32]⟩ ++ t2 ++ ⟨#[32]⟩ ++ t3 ++ ⟨#[32]⟩)) rfl (fun w' hw' => ?_) ?_
  · go_simp
    rw [if_neg (by omega)]
    exact ⟨rfl, rfl⟩
  go_frame
  refine quiet_do (.pointer (some ⟨w.heap.size, 4, none⟩)) rfl (fun w' hw' => ?_) ?_
  · go_simp
  go_frame
  refine quiet_do (.string z.v) rfl (fun w' hw' => ?_) ?_
  · obtain ⟨⟨z0, z1, z2, z3, z4⟩, _⟩ := HC.out w' hw'
    go_simp
  go_frame
  refine quiet_do (.string (z.n ++ ⟨#[46]⟩ ++ z.f ++ ⟨#[32]⟩ ++ t1 ++ ⟨#[32]⟩ ++ t2 ++ ⟨#[32]⟩ ++ t3 ++ ⟨#[32]⟩ ++ z.v)) rfl (fun w' hw' => ?_) ?_
  · go_simp
    rw [if_neg (by omega)]
    exact ⟨rfl, rfl⟩
  go_frame
  refine quiet_do (.string (z.n ++ ⟨#[46]⟩ ++ z.f ++ ⟨#[32]⟩ ++ t1 ++ ⟨#[32]⟩ ++ t2 ++ ⟨#[32]⟩ ++ t3 ++ ⟨#[32]⟩ ++ z.v ++ ⟨#[10]⟩)) rfl (fun w' hw' => ?_) ?_
  · go_simp
    rw [if_neg (by omega)]
    exact ⟨rfl, rfl⟩
  go_frame
  refine quiet_do (.string (z.n ++ ⟨#[46]⟩ ++ z.f ++ ⟨#[32]⟩ ++ t1 ++ ⟨#[32]⟩ ++ t2 ++ ⟨#[32]⟩ ++ t3 ++ ⟨#[32]⟩ ++ z.v ++ ⟨#[10]⟩)) rfl (fun w' hw' => ?_) ?_
  · go_simp
  go_frame
  refine wpQuiet_nil ?_
  intro w2 hw2
  go_wp2
  go_ret
  exact ⟨by rw [HL.out]; rfl, ((Below.refl _ w).alloc (Nat.le_refl _) _).grown hw2 (by simp) (fun k e => by cases e)⟩
end Go.Proofs.YtjhlijobdihplaaGreatDoor
namespace Go.Proofs.YtjhlijobdihplaaGreatDoor
open Go.RowKit Go.Maps Go.Shelf Go.Deep

def addTo (h : Int) (s : ByteArray) (k : Nat) : Int := addN h (s.data.toList.take k)
theorem addTo_succ (h : Int) (s : ByteArray) (k : Nat) (hk : k < s.size) : addTo h s (k + 1) = hashStep (addTo h s k) s[k] := by
  have h' : k < s.data.toList.length := by simpa using hk
  unfold addTo addN
  rw [List.take_succ_eq_append_getElem h', List.foldl_append]
  simp
  rfl
theorem addTo_all (h : Int) (s : ByteArray) : addTo h s s.size = addN h s.data.toList := by
  unfold addTo
  exact congrArg (addN h) (List.take_of_length_le (Nat.le_of_eq (Array.length_toList (xs := s.data))))

set_option maxRecDepth 100000 in
set_option maxHeartbeats 1000000 in
theorem add_any (h : Int) (s : ByteArray) (w : World) (hs : s.size ≤ 1000000000) :
    Calls Tryz.prog 87 #[.int .u64 h, .string s] w fun e w' => e = .returned (.int .u64 (addN h s.data.toList)) ∧ w' = w := by
  have HA : Hid (addTo h s s.size = addN h s.data.toList) := addTo_all h s
  have HZ : Hid (addTo h s 0 = h) := by show addTo h s 0 = h; simp [addTo, addN]
  go_enter Tryz.func87, Tryz.ntmps87
  go_wp2_with fail
  go_loopg [0, 8] s.size (fun q hv i wr => ∃ k : Nat, q + k = s.size ∧ i = .int .i64 k ∧ hv = .int .u64 (addTo h s k) ∧ wr = w)
  case atStart => exact ⟨0, by omega, rfl, by rw [HZ.out], rfl⟩
  case round =>
    obtain ⟨k, hq, rfl, rfl, rfl⟩ := hrel
    by_cases hlt : k < s.size
    · have HS : Hid (addTo h s (k + 1) = hashStep (addTo h s k) s[k]) := addTo_succ h s k hlt
      clear HA HZ
      go_wp2
      go_roundg (gk - 1)
      case rel => exact ⟨k + 1, by omega, by go_num, by rw [HS.out]; rfl, rfl⟩
      case measure => omega
    · have hek : k = s.size := by omega
      subst hek
      go_wp2
      go_ret
      exact ⟨by rw [← HA.out]; rfl, rfl⟩

/-- a hash's eight bytes as an array's value -/
def digH (h : Int) : Value := .agg #[.int .u8 (hashB h 0), .int .u8 (hashB h 1), .int .u8 (hashB h 2), .int .u8 (hashB h 3), .int .u8 (hashB h 4), .int .u8 (hashB h 5), .int .u8 (hashB h 6), .int .u8 (hashB h 7)]
theorem digV_eq (L : ByteArray) : digV L = digH (hashN L.data.toList) := rfl

set_option maxRecDepth 100000 in
set_option maxHeartbeats 1000000 in
theorem hdigest_any (h : Int) (w : World) :
    Calls Tryz.prog 89 #[.int .u64 h] w fun e w' => e = .returned (digH h) ∧ Below w.heap.size w w' := by
  go_enter Tryz.func89, Tryz.ntmps89
  go_wp2_with fail
  refine wp_loop_rounds 9 ?_
  rw [rounds_succ]
  go_wp2
  rw [rounds_succ]
  go_wp2
  rw [rounds_succ]
  go_wp2
  rw [rounds_succ]
  go_wp2
  rw [rounds_succ]
  go_wp2
  rw [rounds_succ]
  go_wp2
  rw [rounds_succ]
  go_wp2
  rw [rounds_succ]
  go_wp2
  rw [rounds_succ]
  go_wp2
  refine bodyPost_ret (v := .agg #[.int .u8 (hashB h 0), .int .u8 (hashB h 1), .int .u8 (hashB h 2), .int .u8 (hashB h 3), .int .u8 (hashB h 4), .int .u8 (hashB h 5), .int .u8 (hashB h 6), .int .u8 (hashB h 7)]) (by simp [results, Tryz.results89, go_sem, hashB]) rfl ?_
  exact ⟨rfl, ((Below.refl _ w).alloc (Nat.le_refl _) _).alloc (by simp) _⟩
end Go.Proofs.YtjhlijobdihplaaGreatDoor
