import Derived.Test.YtjhlijobdihplaaGreatDoorR4
namespace Go.Proofs.YtjhlijobdihplaaGreatDoor
open Go.RowKit

def lastS (out : List ByteArray) : ByteArray := str out (out.length - 1)
def nameNewB (out : List ByteArray) (n : ByteArray) : Bool := out.length == 0 || !eqS (lastS out) n
def namesStep (l : List Reg) (pre : ByteArray) (out : List ByteArray) (y : Reg) : List ByteArray :=
  if beginsB y.n pre && (decide (0 < (fieldsL l y.n).length) && nameNewB out y.n) then out ++ [y.n] else out
def namesTo (l : List Reg) (pre : ByteArray) (m : List Reg) : List ByteArray := m.foldl (namesStep l pre) []
def namesL (l : List Reg) (pre : ByteArray) : List ByteArray := namesTo l pre l
theorem namesTo_succ (l : List Reg) (pre : ByteArray) (k : Nat) (h : k < l.length) : namesTo l pre (l.take (k + 1)) = namesStep l pre (namesTo l pre (l.take k)) (reg l k) := by
  rw [take_reg l k h]; unfold namesTo; rw [List.foldl_append]; rfl
theorem namesTo_len (l : List Reg) (pre : ByteArray) : ∀ (m : List Reg) (out : List ByteArray), (m.foldl (namesStep l pre) out).length ≤ out.length + m.length
  | [], out => by simp
  | y :: r, out => by
    have h := namesTo_len l pre r (namesStep l pre out y)
    have h2 : (namesStep l pre out y).length ≤ out.length + 1 := by
      unfold namesStep; split <;> simp
    simp only [List.foldl_cons, List.length_cons]
    omega

theorem Tryz.infoStr : (Tryz.prog.info? 9).map (fun i => (i.zero, i.size, i.bytes)) = some (some (.string ByteArray.empty), 1, 16) := by kernel_rfl

theorem row_text {w : World} {B : Nat} {t : TypeId} {v : Value} {out : List ByteArray} {y : ByteArray} (h : w.ownsRow B t 1 v (out.length + 1) (out.map Value.string ++ [.string y])) : w.ownsRow B t 1 v (out ++ [y]).length ((out ++ [y]).map Value.string) := by
  have e1 : (out ++ [y]).length = out.length + 1 := by simp
  have e2 : (out ++ [y]).map Value.string = out.map Value.string ++ [.string y] := by simp
  rw [e1, e2]; exact h

theorem text_one (y : ByteArray) : ∀ u ∈ [Value.string y], u.oneCell' = true := by
  intro u hu; simp only [List.mem_cons, List.not_mem_nil, or_false] at hu; subst hu; rfl

theorem tx_of {w : World} {B : Nat} {t : TypeId} {v : Value} {out : List ByteArray} (h : w.ownsRow B t 1 v out.length (out.map Value.string)) : Tx t w v out := ownsRow_base h (Nat.zero_le _)
theorem bk_of {w : World} {B : Nat} {t : TypeId} {v : Value} {l : List Reg} (h : w.ownsRow B t 5 v l.length (rowCells l)) : Bk t w v l := ownsRow_base h (Nat.zero_le _)

set_option maxRecDepth 100000 in
set_option maxHeartbeats 2000000 in
theorem refNames_any (l : List Reg) (pre : ByteArray) (a : Option Addr) (cap : Nat) (w : World) (hB : Bk 57 w (.slice a l.length cap) l) (hl : l.length ≤ 9000) (hN : ∀ i, i < l.length → (reg l i).n.size ≤ maxLen) (hp : pre.size ≤ maxLen) :
    Calls Tryz.prog 22 #[.slice a l.length cap, .string pre] w
      fun e w' => ∃ v, e = .returned v ∧ w'.ownsRow w.heap.size 9 1 v (namesL l pre).length ((namesL l pre).map Value.string) ∧ Below w.heap.size w w' := by
  obtain ⟨i0, hi, hz0, hz1, hz2⟩ := info_parts Tryz.infoStr
  go_enter Tryz.func22, Tryz.ntmps22
  go_wp2_with fail
  go_loopg [5, 6] l.length (fun q o i wr => ∃ k : Nat, q + k = l.length ∧ i = .int .i64 k ∧
    wr.ownsRow w.heap.size 9 1 o (namesTo l pre (l.take k)).length ((namesTo l pre (l.take k)).map Value.string) ∧ Below w.heap.size w wr)
  case atStart => exact ⟨0, by omega, rfl, ⟨rfl, .inl ⟨rfl, rfl⟩⟩, Below.refl _ _⟩
  case round =>
    obtain ⟨k, hq, rfl, hrow, hb⟩ := hrel
    by_cases hlt : k < l.length
    · obtain ⟨g, rfl⟩ := hB.shape.2 (by intro h; simp [h] at hlt)
      have HS : Hid (namesTo l pre (l.take (k + 1)) = namesStep l pre (namesTo l pre (l.take k)) (reg l k)) := namesTo_succ l pre k hlt
      have hlen3 : (namesTo l pre (l.take k)).length ≤ 9000 := by
        have h1 : (namesTo l pre (l.take k)).length ≤ 0 + (l.take k).length := namesTo_len l pre (l.take k) []
        have h2 : (l.take k).length ≤ k := List.length_take_le _ _
        omega
      generalize namesTo l pre (l.take k) = out at *
      obtain ⟨oa, ocap, rfl⟩ := ownsRow_slice hrow
      have hBr := hB.below (Nat.le_refl _) hb
      obtain ⟨c0, c1, c2, c3, c4⟩ := hBr.five k hlt
      have hsz := hb.size
      have hF := fields_any l (reg l k).n (some ⟨g, 0, none⟩) cap wr hBr hl
      have hbeg := begins_any (reg l k).n pre wr (hN k hlt) hp
      clear hN
      go_wp2_with (first | (go_at_call 48; refine hbeg.mono ?_; clear hbeg; rintro e w' ⟨rfl, rfl⟩) | (go_at_call 19; refine hF.mono ?_; clear hF; rintro e w1 ⟨fv, rfl, hfr, hb1⟩; obtain ⟨fa, fcap, rfl⟩ := ownsRow_slice hfr))
      have hb2 := hb.trans (hb1.mono hsz)
      obtain ⟨c0', c1', c2', c3', c4'⟩ := (hB.below (Nat.le_refl _) hb2).five k hlt
      have hrow2 := ownsRow_below hrow (Nat.le_refl _) hb1
      have hlast : out ≠ [] → ∃ og, oa = some ⟨og, 0, none⟩ ∧ w1.cell? ⟨og, out.length - 1, none⟩ = some (.string (lastS out)) := by
        intro h
        obtain ⟨og, rfl⟩ := (tx_of hrow2).shape.2 h
        have := (tx_of hrow2).cell (out.length - 1) (by have := List.length_pos_iff.2 h; omega)
        exact ⟨og, rfl, this⟩
      have hsz2 := hb2.size
      clear hB hBr c0 c1 c2 c3 c4 hrow hfr hb1
      have HC : Hid (namesStep l pre out (reg l k) = if beginsB (reg l k).n pre && (decide (0 < (fieldsL l (reg l k).n).length) && nameNewB out (reg l k).n) then out ++ [(reg l k).n] else out) := rfl
      generalize hnf : (fieldsL l (reg l k).n).length = nf at *
      clear hnf
      cases h1 : beginsB (reg l k).n pre
      · skip
        go_quiet (fail)
        go_wp2_with fail
        go_roundg (gk - 1)
        case measure => omega
        case rel => exact ⟨k + 1, by omega, by go_num, by rw [HS.out, HC.out, h1, Bool.false_and, if_neg (by decide)]; exact ownsRow_below hrow2 (Nat.le_refl _) (below_drewN (Below.refl _ _) _), below_drewN hb2 _⟩
      · by_cases h2 : 0 < nf
        · cases h3 : ((out.length : Int) == 0)
          · have hne : out ≠ [] := by
              intro h; simp [h] at h3
            obtain ⟨og, rfl, hoc⟩ := hlast hne
            have hpos : 0 < out.length := List.length_pos_iff.2 hne
            cases h4 : ((lastS out).toList == (reg l k).n.toList)
            · skip
              go_quiet (fail)
              have hrow3 := ownsRow_below hrow2 (Nat.le_refl _) (below_drewN (Below.refl _ w1) nq)
              go_wp2_with (at_builtin; go_must (refine wpList_append_own _ rfl _ _ 52 rfl w.heap.size 9 i0 _ 1 16 Tryz.underlying52 hi hz0 hz1 hz2 rfl (by decide) (.slice (some ⟨og, 0, none⟩) out.length ocap) out.length (out.map Value.string) rfl (by exact hrow3.alloc _) ⟨w1.heap.size, 0, none⟩ 1 1 [.string (reg l k).n] rfl rfl (by exact news_at w1 [.string (reg l k).n] _ _ (by simp)) (text_one _) (by unfold maxLen; omega) (by omega) (by simp; omega) ?_); intro v' w2 hown' hgrow _)
              have hb4 := ((hb2.alloc hsz2 _).trans (below_drewN (Below.refl _ _) nq)).grown hgrow (by simp; omega) (ownBlock_ge hrow2)
              go_roundg (gk - 1)
              case measure => omega
              case rel => exact ⟨k + 1, by omega, by go_num, by rw [HS.out, HC.out, if_pos (by simp [h1, h2, nameNewB, eqS, h4])]; exact row_text hown', hb4⟩
            · skip
              go_quiet (fail)
              go_wp2_with fail
              go_roundg (gk - 1)
              case measure => omega
              case rel => exact ⟨k + 1, by omega, by go_num, by rw [HS.out, HC.out, if_neg (by simp [h1, h2, nameNewB, eqS, h4, hne])]; exact ownsRow_below hrow2 (Nat.le_refl _) (below_drewN (Below.refl _ _) _), below_drewN hb2 _⟩
          · skip
            go_quiet (fail)
            have hrow3 := ownsRow_below hrow2 (Nat.le_refl _) (below_drewN (Below.refl _ w1) nq)
            go_wp2_with (at_builtin; go_must (refine wpList_append_own _ rfl _ _ 52 rfl w.heap.size 9 i0 _ 1 16 Tryz.underlying52 hi hz0 hz1 hz2 rfl (by decide) (.slice oa out.length ocap) out.length (out.map Value.string) rfl (by exact hrow3.alloc _) ⟨w1.heap.size, 0, none⟩ 1 1 [.string (reg l k).n] rfl rfl (by exact news_at w1 [.string (reg l k).n] _ _ (by simp)) (text_one _) (by unfold maxLen; omega) (by omega) (by simp; omega) ?_); intro v' w2 hown' hgrow _)
            have hb4 := ((hb2.alloc hsz2 _).trans (below_drewN (Below.refl _ _) nq)).grown hgrow (by simp; omega) (ownBlock_ge hrow2)
            go_roundg (gk - 1)
            case measure => omega
            case rel => exact ⟨k + 1, by omega, by go_num, by rw [HS.out, HC.out, if_pos (by simp [h1, h2, nameNewB]; left; simpa using h3)]; exact row_text hown', hb4⟩
        · skip
          go_quiet (fail)
          go_wp2_with fail
          go_roundg (gk - 1)
          case measure => omega
          case rel => exact ⟨k + 1, by omega, by go_num, by rw [HS.out, HC.out, if_neg (by simp [h2])]; exact ownsRow_below hrow2 (Nat.le_refl _) (below_drewN (Below.refl _ _) _), below_drewN hb2 _⟩
    · have e : l.take k = l := List.take_of_length_le (by omega)
      rw [e] at hrow
      go_wp2
      go_ret
      exact ⟨_, rfl, hrow, hb⟩
end Go.Proofs.YtjhlijobdihplaaGreatDoor
namespace Go.Proofs.YtjhlijobdihplaaGreatDoor
open Go.RowKit

theorem clockL_ge : ∀ (l : List Reg) (n : Int), n ≤ l.foldl (fun n x => if n < x.c then x.c else n) n
  | [], n => by simp
  | x :: r, n => by
    have h := clockL_ge r (if n < x.c then x.c else n)
    simp only [List.foldl_cons]
    refine Int.le_trans ?_ h
    split <;> omega
theorem clockL_nonneg (l : List Reg) : 0 ≤ clockL l := clockL_ge l 0

def putReg (l : List Reg) (id : Int) (name field value : ByteArray) : Reg := ⟨name, field, clockL l + 1, id, value⟩
def putL (l : List Reg) (id : Int) (name field value : ByteArray) : List Reg × Int × ByteArray :=
  if smallB name 8 = false then (l, 1, name) else if smallB field 4 = false then (l, 2, field) else if 20 < (value.size : Int) then (l, 3, value) else (withL l (putReg l id name field value), 0, ⟨#[]⟩)
def delReg (l : List Reg) (id : Int) (name : ByteArray) : Reg := ⟨name, ⟨#[]⟩, clockL l + 1, id, ⟨#[]⟩⟩
def deleteL (l : List Reg) (id : Int) (name : ByteArray) : List Reg × Int × ByteArray :=
  if smallB name 8 = false then (l, 1, name) else if (fieldsL l name).length = 0 then (l, 4, name) else (withL l (delReg l id name), 0, ⟨#[]⟩)

theorem ret3 {v : Value} {k k' : Int} {s s' : ByteArray} (h1 : k = k') (h2 : s = s') : Ending.returned (.tuple #[v, .int .i64 k, .string s]) = .returned (.tuple #[v, .int .i64 k', .string s']) := by rw [h1, h2]

set_option maxRecDepth 100000 in
set_option maxHeartbeats 1000000 in
theorem refPut_any (l : List Reg) (id : Int) (name field value : ByteArray) (a : Option Addr) (cap : Nat) (w : World) (hB : Bk 57 w (.slice a l.length cap) l) (hl : l.length ≤ 9000) (hc : clockL l ≤ 1000000)
    (h1 : name.size ≤ maxLen) (h2 : field.size ≤ maxLen) (h3 : value.size ≤ maxLen) :
    Calls Tryz.prog 12 #[.slice a l.length cap, .int .i64 id, .string name, .string field, .string value] w
      fun e w' => ∃ v, e = .returned (.tuple #[v, .int .i64 (putL l id name field value).2.1, .string (putL l id name field value).2.2]) ∧ Bk 57 w' v (putL l id name field value).1 ∧ Below w.heap.size w w' := by
  have hs1 := refSmall_any name 8 w h1
  have hs2 := refSmall_any field 4 w h2
  have hK := clock_any l a cap w hB hl
  have hc0 := clockL_nonneg l
  have hW := with_any l (putReg l id name field value) a cap w hB hl
  unfold putReg at hW
  dsimp only at hW
  unfold maxLen at h3
  have HP : Hid (putL l id name field value = if smallB name 8 = false then (l, 1, name) else if smallB field 4 = false then (l, 2, field) else if 20 < (value.size : Int) then (l, 3, value) else (withL l ⟨name, field, clockL l + 1, id, value⟩, 0, ⟨#[]⟩)) := rfl
  generalize putL l id name field value = R at *
  cases b1 : smallB name 8
  · rw [b1] at hs1
    go_enter Tryz.func12, Tryz.ntmps12
    go_wp2_with fail
    refine hs1.mono ?_
    rintro e w' ⟨rfl, hw⟩
    subst hw
    go_wp2_with fail
    refine hs2.mono ?_
    rintro e w'' ⟨rfl, hw⟩
    subst hw
    go_wp2_with fail
    go_ret3
    exact ⟨_, ret3 (by rw [HP.out, b1]; rfl) (by rw [HP.out, b1]; rfl), by rw [HP.out, b1]; exact hB, Below.refl _ _⟩
  · rw [b1] at hs1
    cases b2 : smallB field 4
    · rw [b2] at hs2
      go_enter Tryz.func12, Tryz.ntmps12
      go_wp2_with fail
      refine hs1.mono ?_
      rintro e w' ⟨rfl, hw⟩
      subst hw
      go_wp2_with fail
      refine hs2.mono ?_
      rintro e w'' ⟨rfl, hw⟩
      subst hw
      go_wp2_with fail
      go_ret3
      exact ⟨_, ret3 (by rw [HP.out, b1, b2]; rfl) (by rw [HP.out, b1, b2]; rfl), by rw [HP.out, b1, b2]; exact hB, Below.refl _ _⟩
    · rw [b2] at hs2
      by_cases b3 : 20 < (value.size : Int)
      · go_enter Tryz.func12, Tryz.ntmps12
        go_wp2_with fail
        refine hs1.mono ?_
        rintro e w' ⟨rfl, hw⟩
        subst hw
        go_wp2_with fail
        refine hs2.mono ?_
        rintro e w'' ⟨rfl, hw⟩
        subst hw
        go_wp2_with fail
        go_ret3
        have hR : R = (l, 3, value) := by rw [HP.out, b1, b2]; simp [b3]
        exact ⟨_, ret3 (by rw [hR]) (by rw [hR]), by rw [hR]; exact hB, Below.refl _ _⟩
      · go_enter Tryz.func12, Tryz.ntmps12
        go_wp2_with fail
        refine hs1.mono ?_
        rintro e w' ⟨rfl, hw⟩
        subst hw
        go_wp2_with fail
        refine hs2.mono ?_
        rintro e w'' ⟨rfl, hw⟩
        subst hw
        go_wp2_with fail
        refine hK.mono ?_
        rintro e w'' ⟨rfl, hw⟩
        subst hw
        go_wp2_with fail
        refine hW.mono ?_
        rintro e w4 ⟨v, rfl, hrow, hb⟩
        go_wp2_with fail
        go_ret3
        have hR : R = (withL l ⟨name, field, clockL l + 1, id, value⟩, 0, ⟨#[]⟩) := by rw [HP.out, b1, b2]; simp [b3]
        exact ⟨_, ret3 (by rw [hR]) (by rw [hR]), by rw [hR]; exact bk_of hrow, hb⟩

set_option maxRecDepth 100000 in
set_option maxHeartbeats 1000000 in
theorem refDelete_any (l : List Reg) (id : Int) (name : ByteArray) (a : Option Addr) (cap : Nat) (w : World) (hB : Bk 57 w (.slice a l.length cap) l) (hl : l.length ≤ 9000) (hc : clockL l ≤ 1000000)
    (h1 : name.size ≤ maxLen) :
    Calls Tryz.prog 14 #[.slice a l.length cap, .int .i64 id, .string name] w
      fun e w' => ∃ v, e = .returned (.tuple #[v, .int .i64 (deleteL l id name).2.1, .string (deleteL l id name).2.2]) ∧ Bk 57 w' v (deleteL l id name).1 ∧ Below w.heap.size w w' := by
  have hs1 := refSmall_any name 8 w h1
  have hF := fields_any l name a cap w hB hl
  have hc0 := clockL_nonneg l
  have HP : Hid (deleteL l id name = if smallB name 8 = false then (l, 1, name) else if (fieldsL l name).length = 0 then (l, 4, name) else (withL l ⟨name, ⟨#[]⟩, clockL l + 1, id, ⟨#[]⟩⟩, 0, ⟨#[]⟩)) := rfl
  have hfl : (fieldsL l name).length ≤ 9000 := Nat.le_trans (List.length_filter_le _ _) hl
  generalize deleteL l id name = R at *
  generalize fieldsL l name = F at *
  cases b1 : smallB name 8
  · rw [b1] at hs1
    go_enter Tryz.func14, Tryz.ntmps14
    go_wp2_with fail
    refine hs1.mono ?_
    rintro e w' ⟨rfl, hw⟩
    subst hw
    go_wp2_with fail
    refine hF.mono ?_
    rintro e w1 ⟨fv, rfl, hfr, hb1⟩
    obtain ⟨fa, fcap, rfl⟩ := ownsRow_slice hfr
    go_wp2_with fail
    go_ret3
    exact ⟨_, ret3 (by rw [HP.out, b1]; rfl) (by rw [HP.out, b1]; rfl), by rw [HP.out, b1]; exact hB.below (Nat.le_refl _) hb1, hb1⟩
  · rw [b1] at hs1
    cases b2 : ((F.length : Int) == 0)
    · go_enter Tryz.func14, Tryz.ntmps14
      go_wp2_with fail
      refine hs1.mono ?_
      rintro e w' ⟨rfl, hw⟩
      subst hw
      go_wp2_with fail
      refine hF.mono ?_
      rintro e w1 ⟨fv, rfl, hfr, hb1⟩
      obtain ⟨fa, fcap, rfl⟩ := ownsRow_slice hfr
      have hB1 := hB.below (Nat.le_refl _) hb1
      go_wp2_with fail
      refine (clock_any l a cap _ hB1 hl).mono ?_
      rintro e w'' ⟨rfl, hw⟩
      subst hw
      go_wp2_with fail
      refine (with_any l ⟨name, ⟨#[]⟩, clockL l + 1, id, ⟨#[]⟩⟩ a cap _ hB1 hl).mono ?_
      rintro e w4 ⟨v, rfl, hrow, hb⟩
      go_wp2_with fail
      go_ret3
      have hR : R = (withL l ⟨name, ⟨#[]⟩, clockL l + 1, id, ⟨#[]⟩⟩, 0, ⟨#[]⟩) := by
        rw [HP.out, b1]
        have : ¬ F.length = 0 := by simpa using b2
        simp [this]
      exact ⟨_, ret3 (by rw [hR]) (by rw [hR]), by rw [hR]; exact bk_of hrow, hb1.trans (hb.mono hb1.size)⟩
    · go_enter Tryz.func14, Tryz.ntmps14
      go_wp2_with fail
      refine hs1.mono ?_
      rintro e w' ⟨rfl, hw⟩
      subst hw
      go_wp2_with fail
      refine hF.mono ?_
      rintro e w1 ⟨fv, rfl, hfr, hb1⟩
      obtain ⟨fa, fcap, rfl⟩ := ownsRow_slice hfr
      go_wp2_with fail
      go_ret3
      have hR : R = (l, 4, name) := by
        rw [HP.out, b1]
        have : F.length = 0 := by simpa using b2
        simp [this]
      exact ⟨_, ret3 (by rw [hR]) (by rw [hR]), by rw [hR]; exact hB.below (Nat.le_refl _) hb1, hb1⟩

/-- A step of a script. -/
structure OpS where
  kind : Int
  a : Int
  b : Int
  c : Int
  s : ByteArray
  t : ByteArray
  u : ByteArray
def OpS.value (o : OpS) : Value := .agg #[.int .i64 o.kind, .int .i64 o.a, .int .i64 o.b, .int .i64 o.c, .string o.s, .string o.t, .string o.u]
def opAt (l : List OpS) (i : Nat) : OpS := l.getD i ⟨0, 0, 0, 0, ByteArray.empty, ByteArray.empty, ByteArray.empty⟩
/-- the script's cells -/
def Sc (w : World) (g off : Nat) (l : List OpS) : Prop := ∀ i, i < l.length →
  w.cell? ⟨g, off + i * 7, none⟩ = some (.int .i64 (opAt l i).kind) ∧ w.cell? ⟨g, off + i * 7 + 1, none⟩ = some (.int .i64 (opAt l i).a) ∧ w.cell? ⟨g, off + i * 7 + 2, none⟩ = some (.int .i64 (opAt l i).b) ∧
  w.cell? ⟨g, off + i * 7 + 3, none⟩ = some (.int .i64 (opAt l i).c) ∧ w.cell? ⟨g, off + i * 7 + 4, none⟩ = some (.string (opAt l i).s) ∧ w.cell? ⟨g, off + i * 7 + 5, none⟩ = some (.string (opAt l i).t) ∧ w.cell? ⟨g, off + i * 7 + 6, none⟩ = some (.string (opAt l i).u)
def opSize (o : OpS) : Nat := o.s.size + o.t.size + o.u.size
def scSum (l : List OpS) : Nat := (l.map opSize).sum
theorem opAt_take (l : List OpS) (k : Nat) (h : k < l.length) : l.take (k + 1) = l.take k ++ [opAt l k] := by
  rw [List.take_succ_eq_append_getElem h]; simp [opAt, List.getD, h]
theorem scSum_succ (l : List OpS) (k : Nat) (h : k < l.length) : scSum (l.take (k + 1)) = scSum (l.take k) + opSize (opAt l k) := by
  rw [opAt_take l k h]; simp [scSum]
theorem scSum_le (l : List OpS) (k : Nat) : scSum (l.take k) ≤ scSum l := by
  have : scSum l = scSum (l.take k) + scSum (l.drop k) := by
    simp only [scSum]; rw [← List.sum_append, ← List.map_append, List.take_append_drop]
  omega

set_option maxRecDepth 100000 in
set_option maxHeartbeats 1000000 in
/-- nothing is claimed of a script that is too long -/
theorem lawSmall_any (l : List OpS) (ad : Option Addr) (cap : Nat) (w : World) (hl : l.length ≤ maxLen) (hS : l ≠ [] → ∃ g off, ad = some ⟨g, off, none⟩ ∧ Sc w g off l)
    (hb : ∀ i, i < l.length → (opAt l i).s.size ≤ 140737488355328 ∧ (opAt l i).t.size ≤ 140737488355328 ∧ (opAt l i).u.size ≤ 140737488355328) :
    Calls Tryz.prog 7 #[.slice ad l.length cap] w fun e w' => e = .returned (.bool (decide (l.length + scSum l ≤ 4096))) ∧ ∃ n, w' = w.drewN n := by
  unfold maxLen at hl
  by_cases hbig : 4096 < (l.length : Int)
  · go_enter Tryz.func7, Tryz.ntmps7
    go_wp2
    go_ret
    exact ⟨ret_bool (by rw [decide_eq_false (by omega)]), 0, rfl⟩
  · go_enter Tryz.func7, Tryz.ntmps7
    go_wp2
    go_loopw [3, 4] (fun m i wr => ∃ k : Nat, k ≤ l.length ∧ i = .int .i64 k ∧ m = .int .i64 ((l.length + scSum (l.take k) : Nat) : Int) ∧ l.length + scSum (l.take k) ≤ 4096 ∧ ∃ n, wr = w.drewN n) (fun _ i _ => l.length - (intOf i).toNat)
    case atStart => exact ⟨0, Nat.zero_le _, rfl, rfl, by simp [scSum]; omega, 0, rfl⟩
    case round =>
      obtain ⟨k, hk, rfl, rfl, hle, n, rfl⟩ := hrel
      by_cases hlt : k < l.length
      · obtain ⟨g, off, rfl, hc⟩ := hS (by intro h; simp [h] at hlt)
        obtain ⟨c0, c1, c2, c3, c4, c5, c6⟩ := hc k hlt
        obtain ⟨b1, b2, b3⟩ := hb k hlt
        have hsu := scSum_succ l k hlt
        have hsl := scSum_le l (k + 1)
        clear hb hS hc
        go_wp2
        go_quiet (fail)
        have HSU : Hid (scSum (l.take (k + 1)) = scSum (l.take k) + opSize (opAt l k)) := hsu
        clear hsu
        by_cases h4 : 4096 < ((l.length : Int) + (scSum (l.take k) : Int) + ((opAt l k).s.size : Int) + ((opAt l k).t.size : Int) + ((opAt l k).u.size : Int))
        · go_wp2
          go_ret
          have hsu := HSU.out
          unfold opSize at hsu
          exact ⟨ret_bool (by rw [decide_eq_false (by omega)]), _, rfl⟩
        · go_wp2
          go_roundw
          case rel =>
            have hsu := HSU.out
            unfold opSize at hsu
            exact ⟨k + 1, by omega, by go_num, val_int (by omega), by omega, _, rfl⟩
          case measure => simp [intOf]; omega
      · go_wp2
        go_ret
        have e : l.take k = l := List.take_of_length_le (by omega)
        rw [e] at hle
        exact ⟨ret_bool (by rw [decide_eq_true hle]), n, rfl⟩
end Go.Proofs.YtjhlijobdihplaaGreatDoor
