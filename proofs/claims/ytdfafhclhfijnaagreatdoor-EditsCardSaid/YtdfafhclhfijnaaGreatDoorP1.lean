import Derived.Test.YtdfafhclhfijnaaGreatDoorN2
namespace Go.Proofs.YtdfafhclhfijnaaGreatDoor
open Go.RowKit Go.Maps Go.Shelf

theorem texts_one (T : List ByteArray) : ∀ u ∈ T.map Value.string, u.oneCell' = true := by
  intro u hu
  obtain ⟨y, _, rfl⟩ := List.mem_map.1 hu
  rfl

set_option maxRecDepth 100000 in
set_option maxHeartbeats 2000000 in
theorem namesP_any (pw g i cap len p n M : Nat) (v : Value) (nb : ByteArray → Nat) (l : List Reg) (prefx : ByteArray) (w : World) (hw : w.cell? ⟨pw, 0, none⟩ = some (.slice (some ⟨g, 0, none⟩) len cap)) (hi : i < len) (_hlen : len ≤ 100000) (hp : w.cell? ⟨g, i, none⟩ = some (.pointer (some ⟨p, 0, none⟩)))
    (hc : w.cell? ⟨p, 1, none⟩ = some v) (hB : BookAt w v M nb l n) (hS : SortedB l) (hs : prefx.size ≤ maxLen) (hn : n ≤ 100000) (hll : l.length ≤ 100000) :
    Calls Tryz.prog 19 #[.pointer (some ⟨pw, 0, none⟩), .int .i64 i, .string prefx] w
      fun e w' => ∃ rv, e = .returned rv ∧ w'.ownsRow w.heap.size 9 1 rv (namesL l prefx).length ((namesL l prefx).map Value.string) ∧ Below w.heap.size w w' := by
  have h45 := namesC_any p M n v nb l prefx w hc hB hS hs hn
  have hnl : (namesL l prefx).length ≤ 100000 := by
    have := namesTo_len l prefx l []
    simp at this
    exact Nat.le_trans this hll
  obtain ⟨i0, hti, hz0, hz1, hz2⟩ := info_parts Tryz.infoStr
  obtain ⟨T, hT⟩ : ∃ T, namesL l prefx = T := ⟨_, rfl⟩
  rw [hT] at h45 hnl ⊢
  clear hB hS hT
  go_enter Tryz.func19, Tryz.ntmps19
  go_wp2_with (first | (go_at_call 45; refine h45.mono ?_; clear h45; rintro e w1 ⟨rv, rfl, hrow, hb⟩; rcases hrow.2 with ⟨rfl, h0⟩ | ⟨g1, cap1, cur, rfl, hrest⟩) | (at_builtin; refine wpList_append_own _ rfl _ _ 52 rfl w1.heap.size 9 i0 _ 1 16 Tryz.underlying52 hti hz0 hz1 hz2 rfl (by decide) (.slice none 0 0) 0 [] rfl (World.ownsRow_nil _ _ _ _) ⟨g1, 0, none⟩ T.length cap1 (T.map Value.string) rfl (by simp) (hrow.cells rfl) (texts_one T) (by unfold maxLen; omega) (by omega) (Nat.le_refl _) ?_; intro v' w2 hown' hgrow _))
  · have e0 : T = [] := List.eq_nil_of_length_eq_zero h0
    subst e0
    refine wp_loop_rounds 1 ?_
    rw [rounds_succ]
    go_wp2
    go_ret
    exact ⟨_, rfl, hrow, hb⟩
  · have hown2 : w2.ownsRow w1.heap.size 9 1 v' T.length (T.map Value.string) := by simpa using hown'
    have hg1 := hrow.lt g1 rfl
    have hrow2 := hrow.kept hgrow (.inr (by simp [Value.ownBlock]))
    have hb2 : Below w.heap.size w w2 := hb.grown hgrow hb.size (fun k e => by simp [Value.ownBlock] at e)
    clear hown' hgrow hrow hb hrest
    obtain ⟨va, vc, rfl⟩ := ownsRow_shape hown2
    go_loopg [23] T.length (fun q s wr => ∃ (k : Nat) (xs : List Value), q + k = T.length ∧ s = .int .i64 k ∧ wr.ownsRow w1.heap.size 9 1 (.slice va T.length vc) T.length (T.map Value.string) ∧ wr.ownsRow w.heap.size 9 1 (.slice (some ⟨g1, 0, none⟩) T.length cap1) T.length xs ∧ Below w.heap.size w wr)
    case atStart => exact ⟨0, _, by omega, rfl, hown2, hrow2, hb2⟩
    case round =>
      obtain ⟨k, xs, hq, rfl, hr1, hr2, hb3⟩ := hrel
      clear hrow2 hown2 hb2 hw hp hc
      by_cases hlt : k < T.length
      · have hxl := hr2.1
        obtain ⟨u0, c0⟩ : ∃ u0, wr.cell? ⟨g1, k, none⟩ = some u0 := ⟨xs[k]'(by omega), by rw [hr2.cellAt k (by omega), List.getElem?_eq_getElem]⟩
        have f0 := hr2.frozenAt k
        obtain ⟨hr3, hg3⟩ := hr2.stored k (.string ⟨#[116, 104, 101, 32, 99, 97, 108, 108, 101, 114, 39, 115]⟩)
        have hr4 := hr1.kept hg3 (.inr (fun e => by have := (hr1.lt g1 e).1; omega))
        have hb4 := hb3.grown hg3 hb3.size (fun j e => by cases e; exact hg1.1)
        have HH : Hid ((wr.setCell ⟨g1, k, none⟩ (.string ⟨#[116, 104, 101, 32, 99, 97, 108, 108, 101, 114, 39, 115]⟩)).ownsRow w1.heap.size 9 1 (.slice va T.length vc) T.length (T.map Value.string) ∧ (∃ ys, (wr.setCell ⟨g1, k, none⟩ (.string ⟨#[116, 104, 101, 32, 99, 97, 108, 108, 101, 114, 39, 115]⟩)).ownsRow w.heap.size 9 1 (.slice (some ⟨g1, 0, none⟩) T.length cap1) T.length ys) ∧ Below w.heap.size w (wr.setCell ⟨g1, k, none⟩ (.string ⟨#[116, 104, 101, 32, 99, 97, 108, 108, 101, 114, 39, 115]⟩))) := ⟨hr4, ⟨_, hr3⟩, hb4⟩
        clear hr1 hr2 hr3 hr4 hb3 hb4 hg3 hxl
        go_wp2
        obtain ⟨a1, ⟨ys, a2⟩, a3⟩ := HH.out
        go_roundg (gk - 1)
        case measure => omega
        case rel => exact ⟨k + 1, ys, by omega, by go_num, a1, a2, a3⟩
      · go_wp2
        go_ret
        exact ⟨_, rfl, ownsRow_base hr1 (by omega), hb3⟩
end Go.Proofs.YtdfafhclhfijnaaGreatDoor
