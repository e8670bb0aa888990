import Derived.Test.YtjhlijobdihplaaGreatDoorR3
import Derived.Deep.DeepMust
namespace Go.Proofs.YtjhlijobdihplaaGreatDoor
open Go.RowKit

def nameReg (name : ByteArray) : Reg := ⟨name, ⟨#[]⟩, 0, 0, ⟨#[]⟩⟩
def laterB (a b : Reg) : Bool := decide (b.c < a.c) || (a.c == b.c && decide (b.r < a.r))
def seenB (l : List Reg) (name : ByteArray) (y : Reg) : Bool :=
  eqS y.n name && (!y.f.toList.isEmpty && (if 0 ≤ findI l (nameReg name) then laterB y (reg l (findI l (nameReg name)).toNat) else true))
def fieldsL (l : List Reg) (name : ByteArray) : List Reg := l.filter (seenB l name)

theorem findI_cases (l : List Reg) (x : Reg) : (∃ d : Nat, d < l.length ∧ findI l x = d ∧ sameKeyB (reg l d) x = true) ∨ findI l x = -1 := by
  unfold findI
  cases h : l.findIdx? (fun y => sameKeyB y x) with
  | none => exact .inr rfl
  | some i =>
    rw [List.findIdx?_eq_some_iff_getElem] at h
    obtain ⟨h1, h2, _⟩ := h
    exact .inl ⟨i, h1, rfl, by simpa [reg, List.getD, h1] using h2⟩

theorem filter_yes {l : List Reg} {p : Reg → Bool} {k : Nat} (h : k < l.length) (hp : p (reg l k) = true) : (l.take (k + 1)).filter p = (l.take k).filter p ++ [reg l k] := by
  rw [take_reg l k h, List.filter_append]; simp [hp]
theorem filter_no {l : List Reg} {p : Reg → Bool} {k : Nat} (h : k < l.length) (hp : p (reg l k) = false) : (l.take (k + 1)).filter p = (l.take k).filter p := by
  rw [take_reg l k h, List.filter_append]; simp [hp]

set_option maxRecDepth 100000 in
set_option maxHeartbeats 2000000 in
theorem fields_none (l : List Reg) (name : ByteArray) (a : Option Addr) (cap : Nat) (w : World) (hB : Bk 57 w (.slice a l.length cap) l) (hl : l.length ≤ 9000) (hf : findI l (nameReg name) = -1) :
    Calls Tryz.prog 19 #[.slice a l.length cap, .string name] w
      fun e w' => ∃ v, e = .returned v ∧ w'.ownsRow w.heap.size 57 5 v (fieldsL l name).length (rowCells (fieldsL l name)) ∧ Below w.heap.size w w' := by
  obtain ⟨i0, hi, hz0, hz1, hz2⟩ := info_parts Tryz.infoReg
  have hF := find_any l (nameReg name) a cap w hB hl
  rw [hf] at hF
  have hsee : ∀ y, seenB l name y = (eqS y.n name && (!y.f.toList.isEmpty && true)) := by
    intro y
    rw [seenB, hf]
    rfl
  have HS : Hid (∀ y, seenB l name y = (eqS y.n name && (!y.f.toList.isEmpty && true))) := hsee
  clear hsee hf
  go_enter Tryz.func19, Tryz.ntmps19
  go_wp2_with (go_at_call 46; refine hF.mono ?_; clear hF; rintro e w' ⟨rfl, hb1⟩)
  go_loopg [6, 7] l.length (fun q o i wr => ∃ k : Nat, q + k = l.length ∧ i = .int .i64 k ∧
    wr.ownsRow w.heap.size 57 5 o ((l.take k).filter (seenB l name)).length (rowCells ((l.take k).filter (seenB l name))) ∧ Below w.heap.size w wr)
  case atStart => exact ⟨0, by omega, rfl, ⟨rfl, .inl ⟨rfl, rfl⟩⟩, hb1⟩
  case round =>
    obtain ⟨k, hq, rfl, hrow, hb⟩ := hrel
    clear hb1
    by_cases hlt : k < l.length
    · obtain ⟨g, rfl⟩ := hB.shape.2 (by intro h; simp [h] at hlt)
      have HY : Hid (seenB l name (reg l k) = true → (l.take (k + 1)).filter (seenB l name) = (l.take k).filter (seenB l name) ++ [reg l k]) := filter_yes hlt
      have HN : Hid (seenB l name (reg l k) = false → (l.take (k + 1)).filter (seenB l name) = (l.take k).filter (seenB l name)) := filter_no hlt
      have HC : Hid (seenB l name (reg l k) = (eqS (reg l k).n name && (!(reg l k).f.toList.isEmpty && true))) := HS.out (reg l k)
      have hlen3 : ((l.take k).filter (seenB l name)).length ≤ 9000 := by
        have h1 := List.length_filter_le (seenB l name) (l.take k)
        have h2 : (l.take k).length ≤ k := List.length_take_le _ _
        omega
      clear HS
      generalize (l.take k).filter (seenB l name) = out at *
      obtain ⟨oa, ocap, rfl⟩ := ownsRow_slice hrow
      obtain ⟨c0, c1, c2, c3, c4⟩ := (hB.below (Nat.le_refl _) hb).five k hlt
      have hsz := hb.size
      have hg := (hB.below (Nat.le_refl _) hb).lt
      cases h1 : ((reg l k).n.toList == name.toList)
      · go_wp2_with fail
        go_roundg (gk - 1)
        case measure => omega
        case rel => exact ⟨k + 1, by omega, by go_num, by rw [HN.out (by rw [HC.out, eqS, h1]; rfl)]; exact hrow, hb⟩
      · cases h2 : (reg l k).f.toList.isEmpty
        · clear hB
          go_wp2_with (at_builtin; refine wpList_append_own _ rfl _ _ 40 rfl w.heap.size 57 i0 _ 5 64 Tryz.underlying40 hi hz0 hz1 hz2 rfl (by decide) (.slice oa out.length ocap) out.length (rowCells out) rfl (hrow.alloc _) ⟨wr.heap.size, 0, none⟩ 1 1 (reg l k).cells rfl rfl (news_new _ (reg l k).cells _) (cells_one _) (by unfold maxLen; omega) (by omega) (by simp; omega) ?_; intro v' w1 hown' hgrow _)
          have hb4 := (hb.alloc hsz _).grown hgrow (by simp; omega) (ownBlock_ge hrow)
          go_roundg (gk - 1)
          case measure => omega
          case rel => exact ⟨k + 1, by omega, by go_num, by rw [HY.out (by rw [HC.out, eqS, h1, h2]; rfl)]; exact row_snoc hown', hb4⟩
        · go_wp2_with fail
          go_roundg (gk - 1)
          case measure => omega
          case rel => exact ⟨k + 1, by omega, by go_num, by rw [HN.out (by rw [HC.out, h2]; simp)]; exact hrow, hb⟩
    · have e : l.take k = l := List.take_of_length_le (by omega)
      rw [e] at hrow
      go_wp2
      go_ret
      exact ⟨_, rfl, hrow, hb⟩

set_option maxRecDepth 100000 in
set_option maxHeartbeats 2000000 in
theorem fields_del (l : List Reg) (name : ByteArray) (a : Option Addr) (cap : Nat) (w : World) (hB : Bk 57 w (.slice a l.length cap) l) (hl : l.length ≤ 9000) (d : Nat) (hd : d < l.length) (hf : findI l (nameReg name) = (d : Int)) :
    Calls Tryz.prog 19 #[.slice a l.length cap, .string name] w
      fun e w' => ∃ v, e = .returned v ∧ w'.ownsRow w.heap.size 57 5 v (fieldsL l name).length (rowCells (fieldsL l name)) ∧ Below w.heap.size w w' := by
  obtain ⟨i0, hi, hz0, hz1, hz2⟩ := info_parts Tryz.infoReg
  have hF := find_any l (nameReg name) a cap w hB hl
  rw [hf] at hF
  have hsee : ∀ y, seenB l name y = (eqS y.n name && (!y.f.toList.isEmpty && laterB y (reg l d))) := by
    intro y
    rw [seenB, hf]
    rfl
  have HS : Hid (∀ y, seenB l name y = (eqS y.n name && (!y.f.toList.isEmpty && laterB y (reg l d)))) := hsee
  clear hsee hf
  go_enter Tryz.func19, Tryz.ntmps19
  go_wp2_with (go_at_call 46; refine hF.mono ?_; clear hF; rintro e w' ⟨rfl, hb1⟩)
  go_loopg [6, 7] l.length (fun q o i wr => ∃ k : Nat, q + k = l.length ∧ i = .int .i64 k ∧
    wr.ownsRow w.heap.size 57 5 o ((l.take k).filter (seenB l name)).length (rowCells ((l.take k).filter (seenB l name))) ∧ Below w.heap.size w wr)
  case atStart => exact ⟨0, by omega, rfl, ⟨rfl, .inl ⟨rfl, rfl⟩⟩, hb1⟩
  case round =>
    obtain ⟨k, hq, rfl, hrow, hb⟩ := hrel
    clear hb1
    by_cases hlt : k < l.length
    · obtain ⟨g, rfl⟩ := hB.shape.2 (by intro h; simp [h] at hlt)
      have HY : Hid (seenB l name (reg l k) = true → (l.take (k + 1)).filter (seenB l name) = (l.take k).filter (seenB l name) ++ [reg l k]) := filter_yes hlt
      have HN : Hid (seenB l name (reg l k) = false → (l.take (k + 1)).filter (seenB l name) = (l.take k).filter (seenB l name)) := filter_no hlt
      have HC : Hid (seenB l name (reg l k) = (eqS (reg l k).n name && (!(reg l k).f.toList.isEmpty && laterB (reg l k) (reg l d)))) := HS.out (reg l k)
      have hlen3 : ((l.take k).filter (seenB l name)).length ≤ 9000 := by
        have h1 := List.length_filter_le (seenB l name) (l.take k)
        have h2 : (l.take k).length ≤ k := List.length_take_le _ _
        omega
      clear HS
      generalize (l.take k).filter (seenB l name) = out at *
      obtain ⟨oa, ocap, rfl⟩ := ownsRow_slice hrow
      obtain ⟨c0, c1, c2, c3, c4⟩ := (hB.below (Nat.le_refl _) hb).five k hlt
      have hsz := hb.size
      have hg := (hB.below (Nat.le_refl _) hb).lt
      cases h1 : ((reg l k).n.toList == name.toList)
      · go_wp2_with fail
        go_roundg (gk - 1)
        case measure => omega
        case rel => exact ⟨k + 1, by omega, by go_num, by rw [HN.out (by rw [HC.out, eqS, h1]; rfl)]; exact hrow, hb⟩
      · cases h2 : (reg l k).f.toList.isEmpty
        · obtain ⟨d0, d1, d2, d3, d4⟩ := (hB.below (Nat.le_refl _) hb).five d hd
          clear hB
          cases h3 : laterB (reg l k) (reg l d)
          · have q1 : ¬ (reg l d).c < (reg l k).c := by
              intro h; simp [laterB, h] at h3
            have q2 : ((reg l k).c == (reg l d).c) = true → ¬ (reg l d).r < (reg l k).r := by
              intro h h'; simp [laterB, h, h'] at h3
            cases h4 : ((reg l k).c == (reg l d).c)
            · clear q2
              go_wp2_with fail
              go_roundg (gk - 1)
              case measure => omega
              case rel => exact ⟨k + 1, by omega, by go_num, by rw [HN.out (by rw [HC.out, h3]; simp)]; exact ownsRow_below hrow (Nat.le_refl _) (((Below.refl _ _).alloc (Nat.le_refl _) _).alloc (by simp) _), (hb.alloc hsz _).alloc (by simp; omega) _⟩
            · have q3 := q2 h4
              clear q2
              go_wp2_with fail
              go_roundg (gk - 1)
              case measure => omega
              case rel => exact ⟨k + 1, by omega, by go_num, by rw [HN.out (by rw [HC.out, h3]; simp)]; exact ownsRow_below hrow (Nat.le_refl _) (((Below.refl _ _).alloc (Nat.le_refl _) _).alloc (by simp) _), (hb.alloc hsz _).alloc (by simp; omega) _⟩
          · by_cases q1 : (reg l d).c < (reg l k).c
            · go_wp2_with (at_builtin; go_must (refine wpList_append_own _ rfl _ _ 40 rfl w.heap.size 57 i0 _ 5 64 Tryz.underlying40 hi hz0 hz1 hz2 rfl (by decide) (.slice oa out.length ocap) out.length (rowCells out) rfl ((ownsRow_below hrow (Nat.le_refl _) (((Below.refl _ _).alloc (Nat.le_refl _) _).alloc (by simp) _)).alloc _) ⟨wr.heap.size + 1 + 1, 0, none⟩ 1 1 (reg l k).cells rfl rfl (news_at _ (reg l k).cells _ _ (by simp)) (cells_one _) (by unfold maxLen; omega) (by omega) (by simp; omega) ?_); intro v' w1 hown' hgrow _)
              have hb4 := (((hb.alloc hsz _).alloc (by simp; omega) _).alloc (by simp; omega) _).grown hgrow (by simp; omega) (ownBlock_ge hrow)
              go_roundg (gk - 1)
              case measure => omega
              case rel => exact ⟨k + 1, by omega, by go_num, by rw [HY.out (by rw [HC.out, eqS, h1, h2, h3]; rfl)]; exact row_snoc hown', hb4⟩
            · have q2 : ((reg l k).c == (reg l d).c) = true ∧ (reg l d).r < (reg l k).r := by
                simpa [laterB, q1] using h3
              obtain ⟨q3, q4⟩ := q2
              go_wp2_with (at_builtin; go_must (refine wpList_append_own _ rfl _ _ 40 rfl w.heap.size 57 i0 _ 5 64 Tryz.underlying40 hi hz0 hz1 hz2 rfl (by decide) (.slice oa out.length ocap) out.length (rowCells out) rfl ((ownsRow_below hrow (Nat.le_refl _) (((Below.refl _ _).alloc (Nat.le_refl _) _).alloc (by simp) _)).alloc _) ⟨wr.heap.size + 1 + 1, 0, none⟩ 1 1 (reg l k).cells rfl rfl (news_at _ (reg l k).cells _ _ (by simp)) (cells_one _) (by unfold maxLen; omega) (by omega) (by simp; omega) ?_); intro v' w1 hown' hgrow _)
              have hb4 := (((hb.alloc hsz _).alloc (by simp; omega) _).alloc (by simp; omega) _).grown hgrow (by simp; omega) (ownBlock_ge hrow)
              go_roundg (gk - 1)
              case measure => omega
              case rel => exact ⟨k + 1, by omega, by go_num, by rw [HY.out (by rw [HC.out, eqS, h1, h2, h3]; rfl)]; exact row_snoc hown', hb4⟩
        · go_wp2_with fail
          go_roundg (gk - 1)
          case measure => omega
          case rel => exact ⟨k + 1, by omega, by go_num, by rw [HN.out (by rw [HC.out, h2]; simp)]; exact hrow, hb⟩
    · have e : l.take k = l := List.take_of_length_le (by omega)
      rw [e] at hrow
      go_wp2
      go_ret
      exact ⟨_, rfl, hrow, hb⟩

theorem fields_any (l : List Reg) (name : ByteArray) (a : Option Addr) (cap : Nat) (w : World) (hB : Bk 57 w (.slice a l.length cap) l) (hl : l.length ≤ 9000) :
    Calls Tryz.prog 19 #[.slice a l.length cap, .string name] w
      fun e w' => ∃ v, e = .returned v ∧ w'.ownsRow w.heap.size 57 5 v (fieldsL l name).length (rowCells (fieldsL l name)) ∧ Below w.heap.size w w' := by
  rcases findI_cases l (nameReg name) with ⟨d, hd, hf, _⟩ | hf
  · exact fields_del l name a cap w hB hl d hd hf
  · exact fields_none l name a cap w hB hl hf
end Go.Proofs.YtjhlijobdihplaaGreatDoor
