import Derived.Test.YtdfafhclhfijnaaGreatDoorR4
namespace Go.Proofs.YtdfafhclhfijnaaGreatDoor
open Go.RowKit

def lastS (out : List ByteArray) : ByteArray := str out (out.length - 1)
def nameNewB (out : List ByteArray) (n : ByteArray) : Bool := out.length == 0 || !eqS (lastS out) n
def namesStep (l : List Reg) (pre : ByteArray) (out : List ByteArray) (y : Reg) : List ByteArray :=
  if beginsB y.n pre && (decide (0 < (fieldsL l y.n).length) && nameNewB out y.n) then out ++ [y.n] else out
def namesTo (l : List Reg) (pre : ByteArray) (m : List Reg) : List ByteArray := m.foldl (namesStep l pre) []
def namesL (l : List Reg) (pre : ByteArray) : List ByteArray := namesTo l pre l
theorem namesTo_succ (l : List Reg) (pre : ByteArray) (k : Nat) (h : k < l.length) : namesTo l pre (l.take (k + 1)) = namesStep l pre (namesTo l pre (l.take k)) (reg l k) := by
  rw [take_reg l k h]; unfold namesTo; rw [List.foldl_append]; rfl
theorem namesTo_len (l : List Reg) (pre : ByteArray) : ∀ (m : List Reg) (out : List ByteArray), (m.foldl (namesStep l pre) out).length ≤ out.length + m.length
  | [], out => by simp
  | y :: r, out => by
    have h := namesTo_len l pre r (namesStep l pre out y)
    have h2 : (namesStep l pre out y).length ≤ out.length + 1 := by
      unfold namesStep; split <;> simp
    simp only [List.foldl_cons, List.length_cons]
    omega

theorem Tryz.infoStr : (Tryz.prog.info? 9).map (fun i => (i.zero, i.size, i.bytes)) = some (some (.string ByteArray.empty), 1, 16) := by kernel_rfl

theorem row_text {w : World} {B : Nat} {t : TypeId} {v : Value} {out : List ByteArray} {y : ByteArray} (h : w.ownsRow B t 1 v (out.length + 1) (out.map Value.string ++ [.string y])) : w.ownsRow B t 1 v (out ++ [y]).length ((out ++ [y]).map Value.string) := by
  have e1 : (out ++ [y]).length = out.length + 1 := by simp
  have e2 : (out ++ [y]).map Value.string = out.map Value.string ++ [.string y] := by simp
  rw [e1, e2]; exact h

theorem text_one (y : ByteArray) : ∀ u ∈ [Value.string y], u.oneCell' = true := by
  intro u hu; simp only [List.mem_cons, List.not_mem_nil, or_false] at hu; subst hu; rfl

theorem tx_of {w : World} {B : Nat} {t : TypeId} {v : Value} {out : List ByteArray} (h : w.ownsRow B t 1 v out.length (out.map Value.string)) : Tx t w v out := ownsRow_base h (Nat.zero_le _)
theorem bk_of {w : World} {B : Nat} {t : TypeId} {v : Value} {l : List Reg} (h : w.ownsRow B t 5 v l.length (rowCells l)) : Bk t w v l := ownsRow_base h (Nat.zero_le _)

set_option maxRecDepth 100000 in
set_option maxHeartbeats 2000000 in
theorem refNames_any (l : List Reg) (pre : ByteArray) (a : Option Addr) (cap : Nat) (w : World) (hB : Bk 57 w (.slice a l.length cap) l) (hl : l.length ≤ 9000) (hN : ∀ i, i < l.length → (reg l i).n.size ≤ maxLen) (hp : pre.size ≤ maxLen) :
    Calls Tryz.prog 20 #[.slice a l.length cap, .string pre] w
      fun e w' => ∃ v, e = .returned v ∧ w'.ownsRow w.heap.size 9 1 v (namesL l pre).length ((namesL l pre).map Value.string) ∧ Below w.heap.size w w' := by
  obtain ⟨i0, hi, hz0, hz1, hz2⟩ := info_parts Tryz.infoStr
  go_enter Tryz.func20, Tryz.ntmps20
  go_wp2_with fail
  go_loopg [5, 6] l.length (fun q o i wr => ∃ k : Nat, q + k = l.length ∧ i = .int .i64 k ∧
    wr.ownsRow w.heap.size 9 1 o (namesTo l pre (l.take k)).length ((namesTo l pre (l.take k)).map Value.string) ∧ Below w.heap.size w wr)
  case atStart => exact ⟨0, by omega, rfl, ⟨rfl, .inl ⟨rfl, rfl⟩⟩, Below.refl _ _⟩
  case round =>
    obtain ⟨k, hq, rfl, hrow, hb⟩ := hrel
    by_cases hlt : k < l.length
    · obtain ⟨g, rfl⟩ := hB.shape.2 (by intro h; simp [h] at hlt)
      have HS : Hid (namesTo l pre (l.take (k + 1)) = namesStep l pre (namesTo l pre (l.take k)) (reg l k)) := namesTo_succ l pre k hlt
      have hlen3 : (namesTo l pre (l.take k)).length ≤ 9000 := by
        have h1 : (namesTo l pre (l.take k)).length ≤ 0 + (l.take k).length := namesTo_len l pre (l.take k) []
        have h2 : (l.take k).length ≤ k := List.length_take_le _ _
        omega
      generalize namesTo l pre (l.take k) = out at *
      obtain ⟨oa, ocap, rfl⟩ := ownsRow_slice hrow
      have hBr := hB.below (Nat.le_refl _) hb
      obtain ⟨c0, c1, c2, c3, c4⟩ := hBr.five k hlt
      have hsz := hb.size
      have hF := fields_any l (reg l k).n (some ⟨g, 0, none⟩) cap wr hBr hl
      have hbeg := begins_any (reg l k).n pre wr (hN k hlt) hp
      clear hN
      go_wp2_with (first | (go_at_call 46; refine hbeg.mono ?_; clear hbeg; rintro e w' ⟨rfl, rfl⟩) | (go_at_call 17; refine hF.mono ?_; clear hF; rintro e w1 ⟨fv, rfl, hfr, hb1⟩; obtain ⟨fa, fcap, rfl⟩ := ownsRow_slice hfr))
      have hb2 := hb.trans (hb1.mono hsz)
      obtain ⟨c0', c1', c2', c3', c4'⟩ := (hB.below (Nat.le_refl _) hb2).five k hlt
      have hrow2 := ownsRow_below hrow (Nat.le_refl _) hb1
      have hlast : out ≠ [] → ∃ og, oa = some ⟨og, 0, none⟩ ∧ w1.cell? ⟨og, out.length - 1, none⟩ = some (.string (lastS out)) := by
        intro h
        obtain ⟨og, rfl⟩ := (tx_of hrow2).shape.2 h
        have := (tx_of hrow2).cell (out.length - 1) (by have := List.length_pos_iff.2 h; omega)
        exact ⟨og, rfl, this⟩
      have hsz2 := hb2.size
      clear hB hBr c0 c1 c2 c3 c4 hrow hfr hb1
      have HC : Hid (namesStep l pre out (reg l k) = if beginsB (reg l k).n pre && (decide (0 < (fieldsL l (reg l k).n).length) && nameNewB out (reg l k).n) then out ++ [(reg l k).n] else out) := rfl
      generalize hnf : (fieldsL l (reg l k).n).length = nf at *
      clear hnf
      cases h1 : beginsB (reg l k).n pre
      · skip
        go_quiet (fail)
        go_wp2_with fail
        go_roundg (gk - 1)
        case measure => omega
        case rel => exact ⟨k + 1, by omega, by go_num, by rw [HS.out, HC.out, h1, Bool.false_and, if_neg (by decide)]; exact ownsRow_below hrow2 (Nat.le_refl _) (below_drewN (Below.refl _ _) _), below_drewN hb2 _⟩
      · by_cases h2 : 0 < nf
        · cases h3 : ((out.length : Int) == 0)
          · have hne : out ≠ [] := by
              intro h; simp [h] at h3
            obtain ⟨og, rfl, hoc⟩ := hlast hne
            have hpos : 0 < out.length := List.length_pos_iff.2 hne
            cases h4 : ((lastS out).toList == (reg l k).n.toList)
            · skip
              go_quiet (fail)
              have hrow3 := ownsRow_below hrow2 (Nat.le_refl _) (below_drewN (Below.refl _ w1) nq)
              go_wp2_with (at_builtin; go_must (refine wpList_append_own _ rfl _ _ 52 rfl w.heap.size 9 i0 _ 1 16 Tryz.underlying52 hi hz0 hz1 hz2 rfl (by decide) (.slice (some ⟨og, 0, none⟩) out.length ocap) out.length (out.map Value.string) rfl (by exact hrow3.alloc _) ⟨w1.heap.size, 0, none⟩ 1 1 [.string (reg l k).n] rfl rfl (by exact news_at w1 [.string (reg l k).n] _ _ (by simp)) (text_one _) (by unfold maxLen; omega) (by omega) (by simp; omega) ?_); intro v' w2 hown' hgrow _)
              have hb4 := ((hb2.alloc hsz2 _).trans (below_drewN (Below.refl _ _) nq)).grown hgrow (by simp; omega) (ownBlock_ge hrow2)
              go_roundg (gk - 1)
              case measure => omega
              case rel => exact ⟨k + 1, by omega, by go_num, by rw [HS.out, HC.out, if_pos (by simp [h1, h2, nameNewB, eqS, h4])]; exact row_text hown', hb4⟩
            · skip
              go_quiet (fail)
              go_wp2_with fail
              go_roundg (gk - 1)
              case measure => omega
              case rel => exact ⟨k + 1, by omega, by go_num, by rw [HS.out, HC.out, if_neg (by simp [h1, h2, nameNewB, eqS, h4, hne])]; exact ownsRow_below hrow2 (Nat.le_refl _) (below_drewN (Below.refl _ _) _), below_drewN hb2 _⟩
          · skip
            go_quiet (fail)
            have hrow3 := ownsRow_below hrow2 (Nat.le_refl _) (below_drewN (Below.refl _ w1) nq)
            go_wp2_with (at_builtin; go_must (refine wpList_append_own _ rfl _ _ 52 rfl w.heap.size 9 i0 _ 1 16 Tryz.underlying52 hi hz0 hz1 hz2 rfl (by decide) (.slice oa out.length ocap) out.length (out.map Value.string) rfl (by exact hrow3.alloc _) ⟨w1.heap.size, 0, none⟩ 1 1 [.string (reg l k).n] rfl rfl (by exact news_at w1 [.string (reg l k).n] _ _ (by simp)) (text_one _) (by unfold maxLen; omega) (by omega) (by simp; omega) ?_); intro v' w2 hown' hgrow _)
            have hb4 := ((hb2.alloc hsz2 _).trans (below_drewN (Below.refl _ _) nq)).grown hgrow (by simp; omega) (ownBlock_ge hrow2)
            go_roundg (gk - 1)
            case measure => omega
            case rel => exact ⟨k + 1, by omega, by go_num, by rw [HS.out, HC.out, if_pos (by simp [h1, h2, nameNewB]; left; simpa using h3)]; exact row_text hown', hb4⟩
        · skip
          go_quiet (fail)
          go_wp2_with fail
          go_roundg (gk - 1)
          case measure => omega
          case rel => exact ⟨k + 1, by omega, by go_num, by rw [HS.out, HC.out, if_neg (by simp [h2])]; exact ownsRow_below hrow2 (Nat.le_refl _) (below_drewN (Below.refl _ _) _), below_drewN hb2 _⟩
    · have e : l.take k = l := List.take_of_length_le (by omega)
      rw [e] at hrow
      go_wp2
      go_ret
      exact ⟨_, rfl, hrow, hb⟩
end Go.Proofs.YtdfafhclhfijnaaGreatDoor
