import Derived.Test.YtjhlijobdihplaaGreatDoorM13
import Derived.Test.YtjhlijobdihplaaGreatDoorM11
import Derived.Test.YtjhlijobdihplaaGreatDoorM02
import Derived.Handy
import Derived.Deep.CutBlock
namespace Go.Proofs.YtjhlijobdihplaaGreatDoor
open Go.RowKit Go.Maps Go.Shelf

set_option maxRecDepth 100000 in
set_option maxHeartbeats 4000000 in
/-- a step that asks, whatever it asks -/
theorem step_ask (base lw pw N n i : Nat) (rs : Nat → RD) (os : Nat → Nat) (o : OpS) (w : World) (hP : PSt base w pw N rs n) (hL : LSt base w lw pw N os (fun j => (rs j).id) (fun j => (rs j).l)) (h0 : 0 < N) (hN : N ≤ 5000) (hk : o.kind ≠ 1 ∧ o.kind ≠ 2 ∧ o.kind ≠ 3 ∧ o.kind ≠ 8 ∧ o.kind ≠ 9 ∧ o.kind ≠ 10) (ha : -9223372036854775808 ≤ o.a) (ha2 : o.a < 9223372036854775808) (hpi : pickI o.a N = (i : Int)) (hi : i < N)
    (hQ : ∀ W, Below w.heap.size w W → PSt base W pw N rs n → LSt base W lw pw N os (fun j => (rs j).id) (fun j => (rs j).l) → Calls Tryz.prog 9 #[.pointer (some ⟨lw, 0, none⟩), o.value, .int .i64 i] W fun e w' => e = .returned (.bool true) ∧ Below W.heap.size W w') :
    Calls Tryz.prog 8 #[.pointer (some ⟨lw, 0, none⟩), o.value] w
      fun e w' => e = .returned (.bool true) ∧ Below w.heap.size w w' := by
  obtain ⟨kind, oa, ob, oc, s, t, u⟩ := o
  try dsimp only at hk ha ha2 hpi
  obtain ⟨k1, k2, k3, k8, k9, k10⟩ := hk
  have hk1 : (kind == 1) = false := by simp [k1]
  have hk2 : (kind == 2) = false := by simp [k2]
  have hk3 : (kind == 3) = false := by simp [k3]
  have hk8 : (kind == 8) = false := by simp [k8]
  have hk9 : (kind == 9) = false := by simp [k9]
  have hk10 : (kind == 10) = false := by simp [k10]
  clear k1 k2 k3 k8 k9 k10
  unfold OpS.value at *
  have HQ : Hid (∀ W, Below w.heap.size w W → PSt base W pw N rs n → LSt base W lw pw N os (fun j => (rs j).id) (fun j => (rs j).l) → Calls Tryz.prog 9 #[.pointer (some ⟨lw, 0, none⟩), .agg #[.int .i64 kind, .int .i64 oa, .int .i64 ob, .int .i64 oc, .string s, .string t, .string u], .int .i64 i] W fun e w' => e = .returned (.bool true) ∧ Below W.heap.size W w') := hQ
  clear hQ
  obtain ⟨g, cap, ba, bc, hA⟩ := hL.at hi
  try dsimp only at hA
  have hpk := fun W => pick_any oa N W ha ha2 (by omega) (by omega)
  rw [hpi] at hpk
  obtain ⟨b1, b2, b3, b4, b5, _, _⟩ := hA
  have l1 := lt_of_cell b1
  have l2 := lt_of_cell b3
  have l3 := lt_of_cell b4
  have HPL : Hid (PSt base w pw N rs n ∧ LSt base w lw pw N os (fun j => (rs j).id) (fun j => (rs j).l)) := ⟨hP, hL⟩
  have hP0 := hP.hb
  clear hP hL
  go_enter Tryz.func8, Tryz.ntmps8
  go_wp2
  go_cut [6] (fun v wd => v = .int .i64 i ∧ opBlk wd w.heap.size ⟨kind, oa, ob, oc, s, t, u⟩ ∧ Below w.heap.size w wd)
  case first =>
    have hop : opBlk (w.alloc (.cells #[.int .i64 kind, .int .i64 oa, .int .i64 ob, .int .i64 oc, .string s, .string t, .string u] 35)).drew w.heap.size ⟨kind, oa, ob, oc, s, t, u⟩ := opBlk_new w ⟨kind, oa, ob, oc, s, t, u⟩
    have hbX : Below w.heap.size w (w.alloc (.cells #[.int .i64 kind, .int .i64 oa, .int .i64 ob, .int .i64 oc, .string s, .string t, .string u] 35)).drew := ((Below.refl _ _).alloc (Nat.le_refl _) _).drew
    have HX : Hid (opBlk (w.alloc (.cells #[.int .i64 kind, .int .i64 oa, .int .i64 ob, .int .i64 oc, .string s, .string t, .string u] 35)).drew w.heap.size ⟨kind, oa, ob, oc, s, t, u⟩ ∧ Below w.heap.size w (w.alloc (.cells #[.int .i64 kind, .int .i64 oa, .int .i64 ob, .int .i64 oc, .string s, .string t, .string u] 35)).drew) := ⟨hop, hbX⟩
    clear hop hbX HPL
    go_region_with (go_at_call 11; refine (hpk _).mono ?_; rintro e w1 ⟨rfl, rfl⟩)
    all_goals go_wp2
    all_goals go_meet
    all_goals case rel => exact ⟨rfl, HX.out.1, HX.out.2⟩
  case rest =>
    obtain ⟨rfl, hop, hbw⟩ := hcut
    obtain ⟨o0, o1, o4, o5, o6⟩ := hop.at
    have hA : ∀ W, Below w.heap.size w W → Calls Tryz.prog 9 #[.pointer (some ⟨lw, 0, none⟩), .agg #[.int .i64 kind, .int .i64 oa, .int .i64 ob, .int .i64 oc, .string s, .string t, .string u], .int .i64 i] W
        fun e w' => e = .returned (.bool true) ∧ Below W.heap.size W w' := fun W hb => HQ.out W hb (HPL.out.1.below (Nat.le_refl n) hb) (HPL.out.2.below hb)
    have a1 := below_keep hbw l1 b1
    have a2 := below_keep hbw l1 b2
    have a3 := below_keep hbw l2 b3
    have k1 := lt_of_cell a1
    have k2 := lt_of_cell a3
    have k4 := lt_of_cell o0
    have o2 : wc.cell? ⟨w.heap.size, 2, none⟩ = some (.int .i64 ob) := by unfold opBlk at hop; simp [World.cell?, hop]
    have o3 : wc.cell? ⟨w.heap.size, 3, none⟩ = some (.int .i64 oc) := by unfold opBlk at hop; simp [World.cell?, hop]
    try dsimp only at o0 o1 o4 o5 o6
    clear HPL hpk hop b1 b2 b3 b4 b5
    have HA : Hid (∀ W, Below w.heap.size w W → Calls Tryz.prog 9 #[.pointer (some ⟨lw, 0, none⟩), .agg #[.int .i64 kind, .int .i64 oa, .int .i64 ob, .int .i64 oc, .string s, .string t, .string u], .int .i64 i] W
        fun e w' => e = .returned (.bool true) ∧ Below W.heap.size W w') := hA
    have HB : Hid (Below w.heap.size w wc) := hbw
    clear hA hbw HQ
    go_wp2_with (go_at_call 9; refine (HA.out _ HB.out).mono ?_; clear HA; rintro e w5 ⟨rfl, hb5⟩)
    all_goals go_wp2
    all_goals go_ret
    all_goals exact ⟨rfl, HB.out.trans (hb5.mono (Nat.le_of_lt k4))⟩

theorem step_asks (base lw pw N n i : Nat) (rs : Nat → RD) (os : Nat → Nat) (o : OpS) (w : World) (hP : PSt base w pw N rs n) (hL : LSt base w lw pw N os (fun j => (rs j).id) (fun j => (rs j).l)) (h0 : 0 < N) (hN : N ≤ 5000) (hn : n ≤ 5000) (hk : o.kind = 4 ∨ o.kind = 5) (hs : o.s.size ≤ 5000) (ha : -9223372036854775808 ≤ o.a) (ha2 : o.a < 9223372036854775808) (hpi : pickI o.a N = (i : Int)) (hi : i < N) :
    Calls Tryz.prog 8 #[.pointer (some ⟨lw, 0, none⟩), o.value] w
      fun e w' => e = .returned (.bool true) ∧ Below w.heap.size w w' := by
  refine step_ask base lw pw N n i rs os o w hP hL h0 hN (by omega) ha ha2 hpi hi (fun W _ p l => ?_)
  rcases hk with hk | hk
  · exact asks_fields base lw pw N n i rs os o W p l hi hN hn hk hs
  · exact asks_names base lw pw N n i rs os o W p l hi hN hn hk hs
end Go.Proofs.YtjhlijobdihplaaGreatDoor
namespace Go.Proofs.YtjhlijobdihplaaGreatDoor
open Go.RowKit Go.Maps Go.Shelf

/-- the law's world, as plays lays it -/
def started (w : World) : World := (w.alloc (.cells #[.slice none 0 0] 30)).alloc (.cells #[.pointer (some ⟨w.heap.size, 0, none⟩), .slice none 0 0] 33)
def baseIn (nk : Bool) (k : Int) : Bool := nk || (k == 1 || k == 2 || k == 3)
def playIn (nk : Bool) (ks : List Int) (k : Int) (j : Nat) : Bool := baseIn nk k || (ks.take j).contains k
theorem playIn_succ {nk : Bool} {ks : List Int} {k : Int} {j : Nat} (h : j < ks.length) : playIn nk ks k (j + 1) = (playIn nk ks k j || k == ks.getD j 0) := by
  have e : ks.getD j 0 = ks[j] := by simp [List.getD, h]
  rw [Bool.eq_iff_iff, e]
  simp only [playIn, Bool.or_eq_true, List.contains_iff_mem, List.take_succ_eq_append_getElem h, List.mem_append, List.mem_singleton, beq_iff_eq, or_assoc]
theorem playIn_all {nk : Bool} {ks : List Int} {k : Int} (h : playIn nk ks k ks.length = true) : nk = true ∨ k = 1 ∨ k = 2 ∨ k = 3 ∨ k ∈ ks := by
  simp [playIn, baseIn] at h
  rcases h with (h | (h | h) | h) | h
  · exact .inl h
  · exact .inr (.inl h)
  · exact .inr (.inr (.inl h))
  · exact .inr (.inr (.inr (.inl h)))
  · exact .inr (.inr (.inr (.inr h)))
theorem below_draws (b : Nat) (w : World) (n : Nat) : Below b w (w.drewN n) := ⟨rfl, rfl, rfl, Nat.le_refl _, fun _ _ => rfl⟩

set_option maxRecDepth 100000 in
set_option maxHeartbeats 4000000 in
/-- plays, whatever is played -/
theorem plays_gen (St : World → Nat → Prop) (l : List OpS) (ad ka : Option Addr) (cap kc : Nat) (ks : List Int) (last : Bool) (w : World) (hl : l.length ≤ maxLen) (hS : l ≠ [] → ∃ g off, ad = some ⟨g, off, none⟩ ∧ Sc w g off l)
    (hb : ∀ i, i < l.length → (opAt l i).s.size ≤ 140737488355328 ∧ (opAt l i).t.size ≤ 140737488355328 ∧ (opAt l i).u.size ≤ 140737488355328)
    (hks : ks.length ≤ 100) (hka : ks ≠ [] → ∃ kb, ka = some ⟨kb, 0, none⟩ ∧ ∀ j, j < ks.length → w.cell? ⟨kb, j, none⟩ = some (.int .i64 (ks.getD j 0)))
    (h0 : ∀ nd, St (started (w.drewN nd)) 0) (hskip : ∀ wr k, St wr k → St wr (k + 1)) (hbel : ∀ wr w' k, St wr k → Below wr.heap.size wr w' → St w' k)
    (hstep : ∀ k wr, k < l.length → l.length + scSum l ≤ 4096 → St wr k → Below w.heap.size w wr → (ka = none ∨ (opAt l k).kind = 1 ∨ (opAt l k).kind = 2 ∨ (opAt l k).kind = 3 ∨ (opAt l k).kind ∈ ks) →
      Calls Tryz.prog 8 #[.pointer (some ⟨w.heap.size + 1, 0, none⟩), (opAt l k).value] wr fun e w' => e = .returned (.bool true) ∧ St w' (k + 1) ∧ Below w.heap.size wr w')
    (hlen : ∀ wr, l.length + scSum l ≤ 4096 → St wr l.length → ∃ la N lc, wr.cell? ⟨w.heap.size + 1, 1, none⟩ = some (.slice la N lc) ∧ N ≤ 100000)
    (hlast : last = true → ∀ wr la N lc i, l.length + scSum l ≤ 4096 → St wr l.length → wr.cell? ⟨w.heap.size + 1, 1, none⟩ = some (.slice la N lc) → i < N →
      Calls Tryz.prog 9 #[.pointer (some ⟨w.heap.size + 1, 0, none⟩), .agg #[.int .i64 6, .int .i64 0, .int .i64 0, .int .i64 0, .string ⟨#[]⟩, .string ⟨#[]⟩, .string ⟨#[]⟩], .int .i64 i] wr fun e w' => e = .returned (.bool true) ∧ Below wr.heap.size wr w') :
    Calls Tryz.prog 6 #[.slice ad l.length cap, .slice ka ks.length kc, .bool last] w fun e w' => e = .returned (.bool true) ∧ Below w.heap.size w w' := by
  have hsm := lawSmall_any l ad cap w hl hS hb
  unfold maxLen at hl
  have HG : Hid ((∀ wr k, St wr k → St wr (k + 1)) ∧ (∀ wr w' k, St wr k → Below wr.heap.size wr w' → St w' k) ∧ (∀ wr, l.length + scSum l ≤ 4096 → St wr l.length → ∃ la N lc, wr.cell? ⟨w.heap.size + 1, 1, none⟩ = some (.slice la N lc) ∧ N ≤ 100000)) := ⟨hskip, hbel, hlen⟩
  have HST : Hid (∀ k wr, k < l.length → l.length + scSum l ≤ 4096 → St wr k → Below w.heap.size w wr → (ka = none ∨ (opAt l k).kind = 1 ∨ (opAt l k).kind = 2 ∨ (opAt l k).kind = 3 ∨ (opAt l k).kind ∈ ks) →
      Calls Tryz.prog 8 #[.pointer (some ⟨w.heap.size + 1, 0, none⟩), (opAt l k).value] wr fun e w' => e = .returned (.bool true) ∧ St w' (k + 1) ∧ Below w.heap.size wr w') := hstep
  have HLA : Hid (last = true → ∀ wr la N lc i, l.length + scSum l ≤ 4096 → St wr l.length → wr.cell? ⟨w.heap.size + 1, 1, none⟩ = some (.slice la N lc) → i < N →
      Calls Tryz.prog 9 #[.pointer (some ⟨w.heap.size + 1, 0, none⟩), .agg #[.int .i64 6, .int .i64 0, .int .i64 0, .int .i64 0, .string ⟨#[]⟩, .string ⟨#[]⟩, .string ⟨#[]⟩], .int .i64 i] wr fun e w' => e = .returned (.bool true) ∧ Below wr.heap.size wr w') := hlast
  have HKA : Hid (ks ≠ [] → ∃ kb, ka = some ⟨kb, 0, none⟩ ∧ ∀ j, j < ks.length → w.cell? ⟨kb, j, none⟩ = some (.int .i64 (ks.getD j 0))) := hka
  clear hskip hbel hlen hstep hlast hka
  by_cases hsz : l.length + scSum l ≤ 4096
  · rw [decide_eq_true hsz] at hsm
    go_enter Tryz.func6, Tryz.ntmps6
    go_wp2_with (go_at_call 7; refine hsm.mono ?_; clear hsm; rintro e w1 ⟨rfl, nd, rfl⟩)
    have h0' := h0 nd
    unfold started at h0'
    have hb0 : Below w.heap.size w (((w.drewN nd).alloc (.cells #[.slice none 0 0] 30)).alloc (.cells #[.pointer (some ⟨w.heap.size, 0, none⟩), .slice none 0 0] 33)) := ((below_draws _ w nd).alloc (by simp) _).alloc (by simp) _
    go_loopg [9] l.length (fun q i wr => ∃ k : Nat, q + k = l.length ∧ i = .int .i64 k ∧ St wr k ∧ Below w.heap.size w wr)
    case atStart => exact ⟨0, rfl, rfl, h0', hb0⟩
    case round =>
      clear h0' hb0 h0
      obtain ⟨k, hq, rfl, hW, hbw⟩ := hrel
      by_cases hlt : k < l.length
      · obtain ⟨g, off, rfl, hc⟩ := hS (by intro h; simp [h] at hlt)
        obtain ⟨c0, c1, c2, c3, c4, c5, c6⟩ := hc k hlt
        have lg := lt_of_cell c0
        have d0 := below_keep hbw lg c0
        have d1 := below_keep hbw lg c1
        have d2 := below_keep hbw lg c2
        have d3 := below_keep hbw lg c3
        have d4 := below_keep hbw lg c4
        have d5 := below_keep hbw lg c5
        have d6 := below_keep hbw lg c6
        have HH : Hid (St wr k ∧ Below w.heap.size w wr) := ⟨hW, hbw⟩
        clear hS hb hc hW hbw c0 c1 c2 c3 c4 c5 c6
        go_upto_region 9 with fail
        go_cut [11] (fun v wd => v = .bool (baseIn ka.isNone (opAt l k).kind) ∧ wd = wr)
        case first =>
          clear HH HG HST HLA HKA
          have hnil : Sem.run Tryz.prog (binOp .eql 24 (.slice ka ks.length kc) (.slice none 0 0)) wr = .ok (.bool ka.isNone) wr := by cases ka <;> rfl
          generalize ka.isNone = nk at *
          cases nk
          · by_cases h1 : (opAt l k).kind = 1
            · have f1 : ((opAt l k).kind == 1) = true := by simp [h1]
              go_wp2
              go_meet
              case rel => exact ⟨by simp [baseIn, f1], rfl⟩
            · have f1 : ((opAt l k).kind == 1) = false := by simp [h1]
              by_cases h2 : (opAt l k).kind = 2
              · have f2 : ((opAt l k).kind == 2) = true := by simp [h2]
                go_wp2
                go_meet
                case rel => exact ⟨by simp [baseIn, f1, f2], rfl⟩
              · have f2 : ((opAt l k).kind == 2) = false := by simp [h2]
                go_wp2
                go_meet
                case rel => exact ⟨by simp [baseIn, f1, f2], rfl⟩
          · go_wp2
            go_meet
            case rel => exact ⟨by simp [baseIn], rfl⟩
        case rest =>
          obtain ⟨rfl, hwc⟩ := hcut
          obtain ⟨wo, ewo⟩ : ∃ wo : World, wo = wr := ⟨_, rfl⟩
          obtain ⟨go, ego⟩ : ∃ go : Nat, go = gk := ⟨_, rfl⟩
          subst hwc
          subst ewo
          subst ego
          obtain ⟨kd, hkd⟩ : ∃ kd, (opAt l k).kind = kd := ⟨_, rfl⟩
          rw [hkd] at d0 ⊢
          go_wp2
          go_loopg [11, 12] ks.length (fun q v j wx => ∃ jj : Nat, q + jj = ks.length ∧ j = .int .i64 jj ∧ v = .bool (playIn ka.isNone ks kd jj) ∧ wx = wo)
          case atStart => exact ⟨0, by omega, rfl, by simp [playIn], rfl⟩
          case round =>
            obtain ⟨jj, hjj, rfl, rfl, rfl⟩ := hrel
            by_cases hj : jj < ks.length
            · obtain ⟨kb, hkb, hkc⟩ := HKA.out (by intro h; simp [h] at hj)
              subst hkb
              have e1 := below_keep HH.out.2 (lt_of_cell (hkc jj hj)) (hkc jj hj)
              have HP : Hid (_ = _) := @playIn_succ (Option.isNone (some (⟨kb, 0, none⟩ : Addr))) ks kd jj hj
              generalize ks.getD jj 0 = kj at *
              clear HH HG HST HLA HKA hkc
              generalize playIn (Option.isNone (some (⟨kb, 0, none⟩ : Addr))) ks kd jj = pj at *
              cases pj
              · go_wp2
                go_roundg (gk - 1)
                case rel => exact ⟨jj + 1, by omega, by go_num, by rw [HP.out]; simp, rfl⟩
                case measure => omega
              · go_wp2
                go_roundg (gk - 1)
                case rel => exact ⟨jj + 1, by omega, by go_num, by rw [HP.out]; simp, rfl⟩
                case measure => omega
            · have e2 : jj = ks.length := by omega
              subst e2
              cases hin : playIn ka.isNone ks kd ks.length
              · have HB : Hid (St wr (k + 1) ∧ Below w.heap.size w wr) := ⟨HG.out.1 _ _ HH.out.1, HH.out.2⟩
                clear HH HG HST HLA HKA
                go_wp2
                go_roundg (go - 1)
                case rel => exact ⟨k + 1, by omega, by go_num, HB.out.1, HB.out.2⟩
                case measure => omega
              · have hst := HST.out k wr hlt hsz HH.out.1 HH.out.2 (by
                  rw [hkd]
                  rcases playIn_all hin with h | h
                  · exact .inl (by simpa using h)
                  · exact .inr h)
                unfold OpS.value at hst
                rw [hkd] at hst
                have HB : Hid (Below w.heap.size w wr) := HH.out.2
                clear HH HG HST HLA HKA
                go_wp2_with (go_at_call 8; refine hst.mono ?_; clear hst; rintro e w5 ⟨rfl, hW5, hb5⟩)
                go_roundg (go - 1)
                case rel => exact ⟨k + 1, by omega, by go_num, hW5, HB.out.trans hb5⟩
                case measure => omega
      · have hk : k = l.length := by omega
        subst hk
        obtain ⟨la, N, lc, x3, hN9⟩ := HG.out.2.2 _ hsz hW
        have HW : Hid (St wr l.length ∧ Below w.heap.size w wr) := ⟨hW, hbw⟩
        clear hW hbw
        go_wp2
        obtain ⟨wo, ewo⟩ : ∃ wo : World, wo = wr := ⟨_, rfl⟩
        subst ewo
        go_loopg [14] N (fun q i wx => ∃ j : Nat, q + j = N ∧ i = .int .i64 j ∧ St wx l.length ∧ wx.cell? ⟨w.heap.size + 1, 1, none⟩ = some (.slice la N lc) ∧ Below w.heap.size w wx)
        case atStart => exact ⟨0, by omega, rfl, HW.out.1, x3, HW.out.2⟩
        case round =>
          clear x3 HW
          obtain ⟨j, hjq, rfl, hW, x3, hbw⟩ := hrel
          cases last
          · go_wp2
            all_goals go_ret
            all_goals exact ⟨rfl, hbw⟩
          · by_cases hj : j < N
            · have has := HLA.out rfl wr la N lc j hsz hW x3 hj
              have HW : Hid (St wr l.length ∧ Below w.heap.size w wr ∧ (∀ w', Below wr.heap.size wr w' → St w' l.length ∧ w'.cell? ⟨w.heap.size + 1, 1, none⟩ = some (.slice la N lc))) := ⟨hW, hbw, fun w' hb' => ⟨HG.out.2.1 _ _ _ hW hb', below_keep hb' (lt_of_cell x3) x3⟩⟩
              clear HG HST HLA HKA hW hbw
              go_wp2_with (go_at_call 9; refine has.mono ?_; clear has; rintro e w5 ⟨rfl, hb5⟩)
              go_roundg (gk - 1)
              case rel => exact ⟨j + 1, by omega, by go_num, (HW.out.2.2 w5 hb5).1, (HW.out.2.2 w5 hb5).2, HW.out.2.1.trans (hb5.mono HW.out.2.1.size)⟩
              case measure => omega
            · go_wp2
              all_goals go_ret
              all_goals exact ⟨rfl, hbw⟩
  · rw [decide_eq_false hsz] at hsm
    go_enter Tryz.func6, Tryz.ntmps6
    go_wp2_with (go_at_call 7; refine hsm.mono ?_; clear hsm; rintro e w1 ⟨rfl, nd, rfl⟩)
    go_ret
    exact ⟨rfl, below_draws _ w _⟩
end Go.Proofs.YtjhlijobdihplaaGreatDoor
