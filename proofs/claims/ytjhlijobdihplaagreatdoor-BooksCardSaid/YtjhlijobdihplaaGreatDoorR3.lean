import Derived.Test.YtjhlijobdihplaaGreatDoorM01
import Derived.Deep.RegionLaw
import Derived.Deep.DeepCutAuto
import Derived.Deep.LoopGhost
import Derived.Maps.AppendAt
namespace Go.Proofs.YtjhlijobdihplaaGreatDoor
open Go.RowKit

theorem ownsRow_below {w w' : World} {base : Nat} {e : TypeId} {size : Nat} {v : Value} {n : Nat} {xs : List Value} {B : Nat} (h : w.ownsRow base e size v n xs) (hB : w.heap.size ≤ B) (hb : Below B w w') : w'.ownsRow base e size v n xs := by
  obtain ⟨hl, ⟨he, hn⟩ | ⟨g', c, cur, he, h0, hb', r⟩⟩ := h
  · exact ⟨hl, .inl ⟨he, hn⟩⟩
  · refine ⟨hl, .inr ⟨g', c, cur, he, h0, ?_, r⟩⟩
    rw [hb.block g' (by have := (Array.getElem?_eq_some_iff.1 hb').1; omega), hb']

theorem ownsRow_base {w : World} {base base' : Nat} {e : TypeId} {size : Nat} {v : Value} {n : Nat} {xs : List Value} (h : w.ownsRow base e size v n xs) (hb : base' ≤ base) : w.ownsRow base' e size v n xs := by
  obtain ⟨hl, ⟨he, hn⟩ | ⟨g', c, cur, he, h0, r⟩⟩ := h
  · exact ⟨hl, .inl ⟨he, hn⟩⟩
  · exact ⟨hl, .inr ⟨g', c, cur, he, by omega, r⟩⟩

theorem ownsRow_slice {w : World} {base : Nat} {e : TypeId} {size : Nat} {v : Value} {n : Nat} {xs : List Value} (h : w.ownsRow base e size v n xs) : ∃ a cap, v = .slice a n cap := by
  obtain ⟨hl, ⟨he, hn⟩ | ⟨g', c, cur, he, h0, r⟩⟩ := h
  · exact ⟨none, 0, by rw [he, hn]⟩
  · exact ⟨_, _, he⟩

theorem ownBlock_ge {w : World} {base : Nat} {e : TypeId} {size : Nat} {v : Value} {n : Nat} {xs : List Value} (h : w.ownsRow base e size v n xs) : ∀ k, v.ownBlock = some k → base ≤ k := by
  obtain ⟨hl, ⟨he, hn⟩ | ⟨g', c, cur, he, h0, r⟩⟩ := h
  · rw [he]; intro k hk; cases hk
  · rw [he]; intro k hk; cases hk; exact h0

theorem rowCells_append (a b : List Reg) : rowCells (a ++ b) = rowCells a ++ rowCells b := by simp [rowCells]

/-- append, as one step of a region that draws. -/
theorem step_append_own {P : Program} {ops : Array Oper} {o : Oper} {a : Act} {w : World} {K : Act → World → Prop} {Q : Exit → Act → World → Prop} {E : Prop} (hgd : o.guard = none) (s x : Operand) (t : TypeId)
    (ho : o.op = .call { callee := .builtin .append, args := #[s, x], argTypes := #[t, t] })
    (base : Nat) (e : TypeId) (i : TypeInfo) (z : Value) (size bytes : Nat) (ht : P.underlying t = some (.slice e)) (hi : P.info? e = some i) (hz : i.zero = some z)
    (hsize : i.size = size) (hby : i.bytes = bytes) (hzs : z.cells.size = size) (hsz : 0 < size)
    (v : Value) (n : Nat) (xs : List Value) (hs : a.eval s = v) (hown : w.ownsRow base e size v n xs)
    (ad : Addr) (m c : Nat) (news : List Value) (hx : a.eval x = .slice (some ad) m c) (hl : news.length = m * size) (hnews : ∀ j u, news[j]? = some u → w.cell? (ad.add j) = some u) (h1 : ∀ u ∈ news, u.oneCell' = true)
    (h63 : n + m ≤ maxLen) (hbytes : (n + m) * bytes ≤ 140737488355328) (hbase : base ≤ w.heap.size)
    (h : ∀ v' w', w'.ownsRow base e size v' (n + m) (xs ++ news) → w.grownBy w' v.ownBlock → (v' = .slice none 0 0 ↔ v = .slice none 0 0 ∧ m = 0) → K (a.put o.dst v') w') :
    if Region.wanted o (yielded ops a.tmps) = true then Oper.wp P o a w K Q else E := by
  have hw : Region.wanted o (yielded ops a.tmps) = true := by simp [Region.wanted, hgd]
  rw [if_pos hw]
  exact wp_append_own w s x t ho base e i z size bytes ht hi hz hsize hby hzs hsz v n xs hs hown ad m c news hx hl hnews h1 h63 hbytes hbase h

theorem Tryz.infoReg : (Tryz.prog.info? 57).map (fun i => (i.zero, i.size, i.bytes)) = some (some (.agg #[.string ByteArray.empty, .string ByteArray.empty, .int .i64 0, .int .i64 0, .string ByteArray.empty]), 5, 64) := by kernel_rfl

/-- a new block's cells, as the append's law asks for them -/
theorem news_new (w : World) (cs : List Value) (t : TypeId) : ∀ j u, cs[j]? = some u → (w.alloc (.cells cs.toArray t)).cell? ((⟨w.heap.size, 0, none⟩ : Addr).add j) = some u := by
  intro j u h
  have e : ((⟨w.heap.size, 0, none⟩ : Addr).add j) = ⟨w.heap.size, j, none⟩ := by simp [Addr.add]; omega
  rw [e, World.cell?_alloc_at _ _ _ _ rfl]
  simpa using h

theorem news_at (w : World) (cs : List Value) (t : TypeId) (n : Nat) (hn : n = w.heap.size) : ∀ j u, cs[j]? = some u → (w.alloc (.cells cs.toArray t)).cell? ((⟨n, 0, none⟩ : Addr).add j) = some u := by
  rw [hn]; exact news_new w cs t

theorem cells_one (x : Reg) : ∀ u ∈ x.cells, u.oneCell' = true := by
  intro u hu
  simp only [Reg.cells, List.mem_cons, List.not_mem_nil, or_false] at hu
  rcases hu with rfl | rfl | rfl | rfl | rfl <;> rfl

theorem cells_two (x y : Reg) : ∀ u ∈ x.cells ++ y.cells, u.oneCell' = true := by
  intro u hu
  rcases List.mem_append.1 hu with h | h
  · exact cells_one _ u h
  · exact cells_one _ u h

def withStep (x : Reg) (p : List Reg × Bool) (y : Reg) : List Reg × Bool :=
  if sameKeyB y x then (p.1 ++ [if winsB x y then x else y], true) else if aheadB x y && !p.2 then (p.1 ++ [x, y], true) else (p.1 ++ [y], p.2)
def withTo (x : Reg) (l : List Reg) : List Reg × Bool := l.foldl (withStep x) ([], false)
def withL (l : List Reg) (x : Reg) : List Reg := if (withTo x l).2 then (withTo x l).1 else (withTo x l).1 ++ [x]
theorem withTo_snoc (x y : Reg) (l : List Reg) : withTo x (l ++ [y]) = withStep x (withTo x l) y := by unfold withTo; rw [List.foldl_append]; rfl
theorem withTo_succ (x : Reg) (l : List Reg) (k : Nat) (h : k < l.length) : withTo x (l.take (k + 1)) = withStep x (withTo x (l.take k)) (reg l k) := by rw [take_reg l k h, withTo_snoc]
theorem withTo_len (x : Reg) : ∀ (l : List Reg) (p : List Reg × Bool), (l.foldl (withStep x) p).1.length ≤ p.1.length + 2 * l.length
  | [], p => by simp
  | y :: r, p => by
    have h := withTo_len x r (withStep x p y)
    have h2 : (withStep x p y).1.length ≤ p.1.length + 2 := by
      unfold withStep
      split
      · simp
      · split <;> simp
    simp only [List.foldl_cons, List.length_cons]
    omega

theorem row_snoc {w : World} {B : Nat} {t : TypeId} {v : Value} {out : List Reg} {y : Reg} (h : w.ownsRow B t 5 v (out.length + 1) (rowCells out ++ y.cells)) : w.ownsRow B t 5 v (out ++ [y]).length (rowCells (out ++ [y])) := by
  have e1 : (out ++ [y]).length = out.length + 1 := by simp
  have e2 : rowCells (out ++ [y]) = rowCells out ++ y.cells := by simp [rowCells]
  rw [e1, e2]; exact h
theorem row_snoc2 {w : World} {B : Nat} {t : TypeId} {v : Value} {out : List Reg} {x y : Reg} (h : w.ownsRow B t 5 v (out.length + 2) (rowCells out ++ (x.cells ++ y.cells))) : w.ownsRow B t 5 v (out ++ [x, y]).length (rowCells (out ++ [x, y])) := by
  have e1 : (out ++ [x, y]).length = out.length + 2 := by simp
  have e2 : rowCells (out ++ [x, y]) = rowCells out ++ (x.cells ++ y.cells) := by simp [rowCells]
  rw [e1, e2]; exact h

theorem with_round {t : TypeId} {w w1 : World} {B : Nat} {o : Value} {x : Reg} {l : List Reg} {k : Nat} {p q : List Reg × Bool} {y : Reg} (hstep : withTo x (l.take (k + 1)) = withStep x p y) (he : withStep x p y = q)
    (h : w1.ownsRow B t 5 o q.1.length (rowCells q.1)) (hb : Below B w w1) (b : Value) (hbv : b = .bool q.2) :
    b = .bool (withTo x (l.take (k + 1))).2 ∧ w1.ownsRow B t 5 o (withTo x (l.take (k + 1))).1.length (rowCells (withTo x (l.take (k + 1))).1) ∧ Below B w w1 := by
  rw [hstep, he]
  exact ⟨hbv, h, hb⟩

set_option maxRecDepth 100000 in
set_option maxHeartbeats 2000000 in
theorem with_any (l : List Reg) (x : Reg) (a : Option Addr) (cap : Nat) (w : World) (hB : Bk 57 w (.slice a l.length cap) l) (hl : l.length ≤ 9000) :
    Calls Tryz.prog 31 #[.slice a l.length cap, .agg #[.string x.n, .string x.f, .int .i64 x.c, .int .i64 x.r, .string x.v]] w
      fun e w' => ∃ v, e = .returned v ∧ w'.ownsRow w.heap.size 57 5 v (withL l x).length (rowCells (withL l x)) ∧ Below w.heap.size w w' := by
  obtain ⟨i0, hi, hz0, hz1, hz2⟩ := info_parts Tryz.infoReg
  go_enter Tryz.func31, Tryz.ntmps31
  go_wp2
  go_loopg [5, 6, 7] l.length (fun q o b i wr => ∃ k : Nat, q + k = l.length ∧ i = .int .i64 k ∧ b = .bool (withTo x (l.take k)).2 ∧
    wr.ownsRow (w.heap.size + 1) 57 5 o (withTo x (l.take k)).1.length (rowCells (withTo x (l.take k)).1) ∧
    Below (w.heap.size + 1) (w.alloc (.cells #[.string x.n, .string x.f, .int .i64 x.c, .int .i64 x.r, .string x.v] 57)) wr)
  case atStart => exact ⟨0, by omega, rfl, rfl, ⟨rfl, .inl ⟨rfl, rfl⟩⟩, Below.refl _ _⟩
  case round =>
    obtain ⟨k, hq, rfl, rfl, hrow, hb⟩ := hrel
    by_cases hlt : k < l.length
    · obtain ⟨g, rfl⟩ := hB.shape.2 (by intro h; simp [h] at hlt)
      have hstep : Hid (withTo x (l.take (k + 1)) = withStep x (withTo x (l.take k)) (reg l k)) := withTo_succ x l k hlt
      have hlen := withTo_len x (l.take k) ([], false)
      have hlen2 : (l.take k).length ≤ k := List.length_take_le _ _
      have hlen3 : (withTo x (l.take k)).1.length ≤ 2 * 9000 := by
        have : (withTo x (l.take k)).1.length ≤ 0 + 2 * (l.take k).length := hlen
        omega
      clear hlen hlen2
      generalize withTo x (l.take k) = p at *
      obtain ⟨out, inn⟩ := p
      simp only at hlen3 hrow
      obtain ⟨oa, ocap, rfl⟩ := ownsRow_slice hrow
      go_upto_region 6 with fail
      go_cut [8] (fun s8 wc => s8 = .bool (sameKeyB (reg l k) x) ∧ Below wr.heap.size wr wc)
      case first =>
        obtain ⟨c0, c1, c2, c3, c4⟩ := (hB.below (Nat.le_refl _) (below_box hb)).five k hlt
        obtain ⟨x0, x1, x2, x3, x4⟩ := box_five hb
        clear hB hrow hb
        go_region_with (go_at_call 52; refine (sameKey_any (reg l k) x _).mono ?_; rintro e w' ⟨rfl, hb1⟩)
        all_goals
          clear c0 c1 c2 c3 c4 x0 x1 x2 x3 x4
          go_wp2_with fail
          go_meet
          case rel => exact ⟨rfl, Below.trans (b := wr.drew) ⟨rfl, rfl, rfl, Nat.le_refl _, fun _ _ => rfl⟩ hb1⟩
      case rest =>
        obtain ⟨rfl, hb8⟩ := hcut
        have hbc := hb.trans (hb8.mono (by have := hb.size; rw [World.size_alloc] at this; exact this))
        have hrowc := ownsRow_below hrow (Nat.le_refl _) hb8
        clear hb hrow hb8
        go_upto_region 7 with fail
        go_cut [9] (fun s9 wd => s9 = .bool (aheadB x (reg l k)) ∧ Below wc.heap.size wc wd)
        case first =>
          obtain ⟨c0, c1, c2, c3, c4⟩ := (hB.below (Nat.le_refl _) (below_box hbc)).five k hlt
          obtain ⟨x0, x1, x2, x3, x4⟩ := box_five hbc
          clear hB hrowc hbc
          go_region_with (go_at_call 53; refine (ahead_any x (reg l k) _).mono ?_; rintro e w' ⟨rfl, hb1⟩)
          all_goals
            clear c0 c1 c2 c3 c4 x0 x1 x2 x3 x4
            go_wp2_with fail
            go_meet
            case rel => exact ⟨rfl, Below.trans (b := wc.drew) ⟨rfl, rfl, rfl, Nat.le_refl _, fun _ _ => rfl⟩ hb1⟩
        case rest =>
          obtain ⟨rfl, hb8⟩ := hcut
          have hb2 := hbc.trans (hb8.mono (by have := hbc.size; rw [World.size_alloc] at this; exact this))
          have hrow2 := ownsRow_below hrowc (Nat.le_refl _) hb8
          clear hbc hrowc hb8
          go_upto_region 8 with fail
          go_cut [10] (fun s10 wd => s10 = .bool (winsB x (reg l k)) ∧ Below wc.heap.size wc wd)
          case first =>
            obtain ⟨c0, c1, c2, c3, c4⟩ := (hB.below (Nat.le_refl _) (below_box hb2)).five k hlt
            obtain ⟨x0, x1, x2, x3, x4⟩ := box_five hb2
            clear hB hrow2 hb2
            go_region_with (go_at_call 54; refine (wins_any x (reg l k) _).mono ?_; rintro e w' ⟨rfl, hb1⟩)
            all_goals
              clear c0 c1 c2 c3 c4 x0 x1 x2 x3 x4
              go_wp2_with fail
              go_meet
              case rel => exact ⟨rfl, Below.trans (b := wc.drew) ⟨rfl, rfl, rfl, Nat.le_refl _, fun _ _ => rfl⟩ hb1⟩
          case rest =>
            obtain ⟨rfl, hb8⟩ := hcut
            have hb3 := hb2.trans (hb8.mono (by have := hb2.size; rw [World.size_alloc] at this; exact this))
            have hrow3 := ownsRow_below hrow2 (Nat.le_refl _) hb8
            clear hb2 hrow2 hb8
            obtain ⟨c0, c1, c2, c3, c4⟩ := (hB.below (Nat.le_refl _) (below_box hb3)).five k hlt
            obtain ⟨x0, x1, x2, x3, x4⟩ := box_five hb3
            have hsz := hb3.size
            rw [World.size_alloc] at hsz
            clear hB
            cases hs : sameKeyB (reg l k) x
            · cases ha : aheadB x (reg l k)
              · have hsx : withStep x (out, inn) (reg l k) = (out ++ [reg l k], inn) := by simp [withStep, hs, ha]
                have HS : Hid (withStep x (out, inn) (reg l k) = (out ++ [reg l k], inn)) := hsx
                clear hsx
                go_wp2_with (at_builtin; refine wpList_append_own _ rfl _ _ 40 rfl (w.heap.size + 1) 57 i0 _ 5 64 Tryz.underlying40 hi hz0 hz1 hz2 rfl (by decide) (.slice oa out.length ocap) out.length (rowCells out) rfl (hrow3.alloc _) ⟨wc.heap.size, 0, none⟩ 1 1 (reg l k).cells rfl rfl (news_new _ (reg l k).cells _) (cells_one _) (by unfold maxLen; omega) (by omega) (by simp; omega) ?_; intro v' w1 hown' hgrow _)
                have hb4 := (hb3.alloc hsz _).grown hgrow (by simp; omega) (ownBlock_ge hrow3)
                go_roundg (gk - 1)
                case measure => omega
                case rel => exact ⟨k + 1, by omega, by go_num, with_round hstep.out (q := (out ++ [reg l k], inn)) HS.out (row_snoc hown') hb4 _ rfl⟩
              · cases inn
                · have hsx : withStep x (out, false) (reg l k) = (out ++ [x, reg l k], true) := by simp [withStep, hs, ha]
                  have HS : Hid (withStep x (out, false) (reg l k) = (out ++ [x, reg l k], true)) := hsx
                  clear hsx
                  go_upto_region 17 with fail
                  go_region_law (refine step_append_own rfl (.tmp 66) (.tmp 72) 40 rfl (w.heap.size + 1) 57 i0 _ 5 64 Tryz.underlying40 hi hz0 hz1 hz2 rfl (by decide) (.slice oa out.length ocap) out.length (rowCells out) (by simp [Act.eval]) (by exact hrow3.alloc _) ⟨wc.heap.size, 0, none⟩ 2 2 (x.cells ++ (reg l k).cells) (by simp [Act.eval]) rfl (by exact news_new wc (x.cells ++ (reg l k).cells) _) (cells_two _ _) (by unfold maxLen; omega) (by omega) (by simp; omega) ?_; intro v' w1 hown' hgrow _)
                  all_goals
                    have hb4 := (Below.alloc hb3 hsz _).drew.grown hgrow (by simp; omega) (ownBlock_ge hrow3)
                    go_wp2_with fail
                    go_roundg (gk - 1)
                    case measure => omega
                    case rel => exact ⟨k + 1, by omega, by go_num, with_round hstep.out (q := (out ++ [x, reg l k], true)) HS.out (row_snoc2 hown') hb4 _ rfl⟩
                · have hsx : withStep x (out, true) (reg l k) = (out ++ [reg l k], true) := by simp [withStep, hs, ha]
                  have HS : Hid (withStep x (out, true) (reg l k) = (out ++ [reg l k], true)) := hsx
                  clear hsx
                  go_wp2_with (at_builtin; refine wpList_append_own _ rfl _ _ 40 rfl (w.heap.size + 1) 57 i0 _ 5 64 Tryz.underlying40 hi hz0 hz1 hz2 rfl (by decide) (.slice oa out.length ocap) out.length (rowCells out) rfl (hrow3.alloc _) ⟨wc.heap.size, 0, none⟩ 1 1 (reg l k).cells rfl rfl (news_new _ (reg l k).cells _) (cells_one _) (by unfold maxLen; omega) (by omega) (by simp; omega) ?_; intro v' w1 hown' hgrow _)
                  have hb4 := (hb3.alloc hsz _).grown hgrow (by simp; omega) (ownBlock_ge hrow3)
                  go_roundg (gk - 1)
                  case measure => omega
                  case rel => exact ⟨k + 1, by omega, by go_num, with_round hstep.out (q := (out ++ [reg l k], true)) HS.out (row_snoc hown') hb4 _ rfl⟩
            · cases hw : winsB x (reg l k)
              · have hsx : withStep x (out, inn) (reg l k) = (out ++ [reg l k], true) := by simp [withStep, hs, hw]
                have HS : Hid (withStep x (out, inn) (reg l k) = (out ++ [reg l k], true)) := hsx
                clear hsx
                go_wp2_with (at_builtin; refine wpList_append_own _ rfl _ _ 40 rfl (w.heap.size + 1) 57 i0 _ 5 64 Tryz.underlying40 hi hz0 hz1 hz2 rfl (by decide) (.slice oa out.length ocap) out.length (rowCells out) rfl (hrow3.alloc _) ⟨wc.heap.size, 0, none⟩ 1 1 (reg l k).cells rfl rfl (news_new _ (reg l k).cells _) (cells_one _) (by unfold maxLen; omega) (by omega) (by simp; omega) ?_; intro v' w1 hown' hgrow _)
                have hb4 := (hb3.alloc hsz _).grown hgrow (by simp; omega) (ownBlock_ge hrow3)
                go_roundg (gk - 1)
                case measure => omega
                case rel => exact ⟨k + 1, by omega, by go_num, with_round hstep.out (q := (out ++ [reg l k], true)) HS.out (row_snoc hown') hb4 _ rfl⟩
              · have hsx : withStep x (out, inn) (reg l k) = (out ++ [x], true) := by simp [withStep, hs, hw]
                have HS : Hid (withStep x (out, inn) (reg l k) = (out ++ [x], true)) := hsx
                clear hsx
                go_wp2_with (at_builtin; refine wpList_append_own _ rfl _ _ 40 rfl (w.heap.size + 1) 57 i0 _ 5 64 Tryz.underlying40 hi hz0 hz1 hz2 rfl (by decide) (.slice oa out.length ocap) out.length (rowCells out) rfl (hrow3.alloc _) ⟨wc.heap.size, 0, none⟩ 1 1 x.cells rfl rfl (news_new _ x.cells _) (cells_one _) (by unfold maxLen; omega) (by omega) (by simp; omega) ?_; intro v' w1 hown' hgrow _)
                have hb4 := (hb3.alloc hsz _).grown hgrow (by simp; omega) (ownBlock_ge hrow3)
                go_roundg (gk - 1)
                case measure => omega
                case rel => exact ⟨k + 1, by omega, by go_num, with_round hstep.out (q := (out ++ [x], true)) HS.out (row_snoc hown') hb4 _ rfl⟩
    · have e : l.take k = l := List.take_of_length_le (by omega)
      rw [e] at hrow ⊢
      have hlen := withTo_len x l ([], false)
      have hlen3 : (withTo x l).1.length ≤ 2 * 9000 := by
        have : (withTo x l).1.length ≤ 0 + 2 * l.length := hlen
        omega
      clear hlen
      have hw : Hid (withL l x = if (withTo x l).2 then (withTo x l).1 else (withTo x l).1 ++ [x]) := rfl
      generalize withTo x l = p at *
      obtain ⟨out, inn⟩ := p
      simp only at hlen3 hrow
      obtain ⟨oa, ocap, rfl⟩ := ownsRow_slice hrow
      obtain ⟨x0, x1, x2, x3, x4⟩ := box_five hb
      have hsz := hb.size
      rw [World.size_alloc] at hsz
      cases inn
      · go_wp2_with (at_builtin; refine wpList_append_own _ rfl _ _ 40 rfl (w.heap.size + 1) 57 i0 _ 5 64 Tryz.underlying40 hi hz0 hz1 hz2 rfl (by decide) (.slice oa out.length ocap) out.length (rowCells out) rfl (hrow.alloc _) ⟨wr.heap.size, 0, none⟩ 1 1 x.cells rfl rfl (news_new _ x.cells _) (cells_one _) (by unfold maxLen; omega) (by omega) (by simp; omega) ?_; intro v' w1 hown' hgrow _)
        have hb4 := (hb.alloc hsz _).grown hgrow (by simp; omega) (ownBlock_ge hrow)
        go_ret
        exact ⟨_, rfl, by rw [hw.out]; exact ownsRow_base (row_snoc hown') (by omega), below_box hb4⟩
      · go_wp2
        go_ret
        exact ⟨_, rfl, by rw [hw.out]; exact ownsRow_base hrow (by omega), below_box hb⟩
end Go.Proofs.YtjhlijobdihplaaGreatDoor
