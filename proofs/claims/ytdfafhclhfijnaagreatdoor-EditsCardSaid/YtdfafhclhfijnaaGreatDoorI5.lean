import Derived.Shelf.SlSortCmp.NoneTotal
import Derived.Test.YtdfafhclhfijnaaGreatDoorI4
namespace Go.Proofs.YtdfafhclhfijnaaGreatDoor
open Go.RowKit Go.Maps Go.Shelf Go.Lib Go.Extern

set_option maxRecDepth 100000 in
set_option maxHeartbeats 1000000 in
theorem collect_any (cb n : Nat) (v : Value) (M : Nat) (nb : ByteArray → Nat) (l : List Reg) (name : ByteArray) (w : World) (hB : BookAt w v M nb l n) (hS : SortedB l) (hcb : w.cell? ⟨cb, 0, none⟩ = some (conV l nb name)) (hn : n ≤ 100000) :
    Calls Tryz.prog 90 #[.func (.func 89) #[] #[.pointer (some ⟨cb, 0, none⟩)]] w
      fun e w' => ∃ (xs : List Reg) (rv : Value), e = .returned rv ∧ xs.Perm (fieldsL l name) ∧ w'.ownsRow w.heap.size 99 5 rv xs.length (rowCells xs) ∧ (rv = .slice none 0 0 ↔ xs = []) ∧ Below w.heap.size w w' := by
  have h := appendSeq_any cb n v M nb l name w hB hS hcb hn
  go_enter Tryz.func90, Tryz.ntmps90
  go_wp2_with (go_at_call 96; refine h.mono ?_; rintro e w' ⟨xs, rv, rfl, hp⟩)
  go_ret
  exact ⟨xs, rv, rfl, hp⟩


theorem below_row {w w' : World} {g : Nat} {B : Nat} (h : w.grownBy w' (some g)) (hg : B ≤ g) (hB : B ≤ w.heap.size) : Below B w w' :=
  (Below.refl B w).grown h hB (fun k e => by cases e; exact hg)

set_option maxRecDepth 100000 in
set_option maxHeartbeats 1000000 in
theorem sortedFunc_any (cb n : Nat) (v : Value) (M : Nat) (nb : ByteArray → Nat) (l : List Reg) (name : ByteArray) (w : World) (hB : BookAt w v M nb l n) (hS : SortedB l) (hcb : w.cell? ⟨cb, 0, none⟩ = some (conV l nb name)) (hn : n ≤ 100000) (hl : l.length ≤ 100000) :
    Calls Tryz.prog 81 #[.func (.func 89) #[] #[.pointer (some ⟨cb, 0, none⟩)], .func (.func 82) #[] #[]] w
      fun e w' => ∃ rv : Value, e = .returned rv ∧ w'.ownsRow w.heap.size 99 5 rv (fieldsL l name).length (rowCells (fieldsL l name)) ∧ Below w.heap.size w w' := by
  have h := collect_any cb n v M nb l name w hB hS hcb hn
  have hlen : (fieldsL l name).length ≤ 100000 := Nat.le_trans (List.length_filter_le _ _) hl
  go_enter Tryz.func81, Tryz.ntmps81
  go_wp2_with (go_at_call 90; refine h.mono ?_; rintro e w' ⟨xs, rv, rfl, hp, hrow, hnil, hb⟩; rcases hrow.2 with ⟨rfl, h0⟩ | ⟨g, cap, cur, rfl, hrest⟩)
  · have hx : xs = [] := List.eq_nil_of_length_eq_zero h0
    subst hx
    have hF : fieldsL l name = [] := List.Perm.nil_eq hp |>.symm
    have hso := AnyF.slices_SortFunc_none Tryz.sortReg none 0 (.func (.func 82) #[] #[]) w'
    change Calls Tryz.prog 91 _ _ _ at hso
    refine hso.mono ?_
    rintro e w2 ⟨rfl, rfl⟩
    go_wp2
    go_ret
    rw [hF]
    exact ⟨_, rfl, hrow, hb⟩
  · have hxl : xs.length ≤ 100000 := by rw [hp.length_eq]; exact hlen
    have hso := sortRegs w.heap.size g cap xs w' hrow (by omega)
    have hfr := hrest.1
    clear hrest hrow
    refine hso.mono ?_
    rintro e w2 ⟨rfl, l', hp2, hpw, hrow2, hg2⟩
    go_wp2
    go_ret
    have hF := fields_of_perm hS (hp2.trans hp) hpw
    subst hF
    rw [← hp.length_eq] 
    exact ⟨_, rfl, hrow2, hb.trans (below_row hg2 hfr hb.size)⟩
end Go.Proofs.YtdfafhclhfijnaaGreatDoor
