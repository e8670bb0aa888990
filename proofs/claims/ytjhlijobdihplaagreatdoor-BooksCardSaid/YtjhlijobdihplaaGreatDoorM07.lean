import Derived.Test.YtjhlijobdihplaaGreatDoorM06
import Derived.Test.YtjhlijobdihplaaGreatDoorL1
import Derived.Test.YtjhlijobdihplaaGreatDoorM04
import Derived.Lib.Bytealg
import Derived.Maps.OwnIn
import Derived.Test.YtjhlijobdihplaaGreatDoorM05
import Derived.Shelf.SlSortCmp.NoneTotal
namespace Go.Proofs.YtjhlijobdihplaaGreatDoor
open Go.RowKit Go.Maps Go.Shelf Go.Lib Go.Extern
open Go.Sort (grow SWO PermIn SortedIn Holds alloc_eq_grow grow_grow)

theorem cb_lt : ∀ a b : List UInt8, decide (compareBytes a b < 0) = Op.bytesLess a b
  | [], [] => by simp [compareBytes, Op.bytesLess]
  | [], _ :: _ => by simp [compareBytes, Op.bytesLess]
  | _ :: _, [] => by simp [compareBytes, Op.bytesLess]
  | a :: x, b :: y => by
    have ih := cb_lt x y
    unfold compareBytes Op.bytesLess
    by_cases h1 : a < b
    · simp [h1]
    · by_cases h2 : b < a
      · have : ¬ a = b := fun e => by subst e; exact h1 h2
        simp [h1, h2, this]
      · have : a = b := by
          rw [UInt8.lt_iff_toNat_lt] at h1 h2
          exact UInt8.toNat_inj.1 (by omega)
        simp [this, ih]

theorem cb_eq : ∀ a b : List UInt8, compareBytes a b = 0 ↔ a = b
  | [], [] => by simp [compareBytes]
  | [], _ :: _ => by simp [compareBytes]
  | _ :: _, [] => by simp [compareBytes]
  | a :: x, b :: y => by
    have ih := cb_eq x y
    unfold compareBytes
    by_cases h1 : a < b
    · have : ¬ a = b := fun e => by subst e; exact UInt8.lt_irrefl _ h1
      simp [h1, this]
    · by_cases h2 : b < a
      · have : ¬ a = b := fun e => by subst e; exact h1 h2
        simp [h1, h2, this]
      · have : a = b := by
          rw [UInt8.lt_iff_toNat_lt] at h1 h2
          exact UInt8.toNat_inj.1 (by omega)
        simp [this, ih]

def cmpN (x y : Reg) : Int := compareBytes x.n.data.toList y.n.data.toList
def cmpF (x y : Reg) : Int := compareBytes x.f.data.toList y.f.data.toList
/-- inOrder: by name, then by field -/
def cmpO (x y : Reg) : Int := if cmpN x y = 0 then cmpF x y else cmpN x y
theorem ltO (x y : Reg) : ltOf cmpO x y = aheadB x y := by
  unfold ltOf cmpO aheadB ltS
  by_cases e : x.n = y.n
  · have e0 : cmpN x y = 0 := (cb_eq _ _).2 (by rw [e])
    rw [if_pos e0, eqS_iff.2 e, if_pos rfl]
    unfold cmpF
    rw [cb_lt, ByteArray.toList_eq, ByteArray.toList_eq]
  · have e0 : ¬ cmpN x y = 0 := fun h => e (by
      have := (cb_eq _ _).1 h
      rw [← ByteArray.toList_eq, ← ByteArray.toList_eq] at this
      exact toList_inj this)
    rw [if_neg e0, eqS_no.2 e, if_neg (by simp)]
    unfold cmpN
    rw [cb_lt, ByteArray.toList_eq, ByteArray.toList_eq]
theorem swoO : SWO (ltOf cmpO) where
  irrefl x := by rw [ltO]; exact aheadB_irrefl _
  trans x y z h1 h2 := by rw [ltO] at *; exact aheadB_trans h1 h2
  ntrans x y z h1 h2 := by
    rw [ltO] at *
    cases h3 : aheadB x z
    · rfl
    · cases hk : sameKeyB x y
      · have h4 := aheadB_trans (ahead_total hk h1) h3
        rw [h2] at h4; cases h4
      · obtain ⟨e1, e2⟩ := sameKeyB_iff.1 hk
        rw [(ahead_key (c := z) e1 e2).1, h2] at h3; cases h3

set_option maxRecDepth 100000 in
set_option maxHeartbeats 1000000 in
theorem compare_any (x y : ByteArray) (W : World) :
    Calls Tryz.prog 107 #[.string x, .string y] W fun e w' => e = .returned (.int .i64 (compareBytes x.data.toList y.data.toList)) ∧ w' = W := by
  have h118 := @run_callFunc_extern Tryz.prog 138 _ BytealgCompare.compare Tryz.func138 (by kernel_rfl) (by kernel_rfl) (by kernel_rfl) (by kernel_rfl)
  have hcmp := run_compareString (P := Tryz.prog) x y
  go_enter Tryz.func107, Tryz.ntmps107
  go_wp2
  go_ret
  exact ⟨rfl, rfl⟩

set_option maxRecDepth 100000 in
set_option maxHeartbeats 1000000 in
theorem or_any (g : Nat) (a b : Int) (W : World) (h0 : W.cell? ⟨g, 0, none⟩ = some (.int .i64 a)) (h1 : W.cell? ⟨g, 1, none⟩ = some (.int .i64 b)) :
    Calls Tryz.prog 106 #[.slice (some ⟨g, 0, none⟩) 2 2] W fun e w' => e = .returned (.int .i64 (if a = 0 then b else a)) ∧ w' = W := by
  by_cases ha : a = 0
  · subst ha
    by_cases hb : b = 0
    · subst hb
      go_enter Tryz.func106, Tryz.ntmps106
      go_wp2
      refine wp_loop_rounds 3 ?_
      rw [rounds_succ]
      go_wp2
      rw [rounds_succ]
      go_wp2
      rw [rounds_succ]
      go_wp2
      go_ret
      exact ⟨rfl, rfl⟩
    · have hb2 : (b != 0) = true := by simp [hb]
      go_enter Tryz.func106, Tryz.ntmps106
      go_wp2
      refine wp_loop_rounds 3 ?_
      rw [rounds_succ]
      go_wp2
      rw [rounds_succ]
      go_wp2
      go_ret
      exact ⟨rfl, rfl⟩
  · have ha2 : (a != 0) = true := by simp [ha]
    go_enter Tryz.func106, Tryz.ntmps106
    go_wp2
    refine wp_loop_rounds 3 ?_
    rw [rounds_succ]
    go_wp2
    go_ret
    exact ⟨rfl, rfl⟩

theorem pair_new (W : World) (a b : Int) (t : TypeId) : (W.alloc (.cells #[.int .i64 a, .int .i64 b] t)).cell? ⟨W.heap.size, 0, none⟩ = some (.int .i64 a) ∧ (W.alloc (.cells #[.int .i64 a, .int .i64 b] t)).cell? ⟨W.heap.size, 1, none⟩ = some (.int .i64 b) := by
  constructor <;> simp

set_option maxRecDepth 100000 in
set_option maxHeartbeats 1000000 in
theorem inOrder_any (x y : Reg) (W : World) :
    Calls Tryz.prog 97 #[.agg #[.string x.n, .string x.f, .int .i64 x.c, .int .i64 x.r, .string x.v], .agg #[.string y.n, .string y.f, .int .i64 y.c, .int .i64 y.r, .string y.v]] W
      fun e w' => e = .returned (.int .i64 (cmpO x y)) ∧ ∃ q os', w' = grow (W.drewN q) os' := by
  have h1 := fun w' => compare_any x.n y.n w'
  have h2 := fun w' => compare_any x.f y.f w'
  have HE : Hid (cmpO x y = if compareBytes x.n.data.toList y.n.data.toList = 0 then compareBytes x.f.data.toList y.f.data.toList else compareBytes x.n.data.toList y.n.data.toList) := rfl
  generalize compareBytes x.n.data.toList y.n.data.toList = cn at *
  generalize compareBytes x.f.data.toList y.f.data.toList = cf at *
  go_enter Tryz.func97, Tryz.ntmps97
  go_wp2
  refine region_quiet_head 10 (by kernel_rfl) (by kernel_rfl) ?_
  simp only [List.take_succ_cons, List.take_zero]
  repeat (go_big_quiet_step (first | (go_at_call 107; exact Calls.quiet_of_same (h1 _)) | (go_at_call 107; exact Calls.quiet_of_same (h2 _))))
  refine wpQuiet_nil ?_
  intro nq
  refine wpAny_ready (rs := [10]) (by kernel_rfl) (by simp) ?_
  refine AllReady.cons rfl (fun K hK => ?_) AllReady.nil
  go_simp
  refine hK _ _ ?_
  clear hK K
  refine wpAny_ready (rs := [11]) (by kernel_rfl) (by simp) ?_
  refine AllReady.cons rfl (fun K hK => ?_) AllReady.nil
  go_simp
  obtain ⟨c0, c1⟩ := pair_new (((W.alloc (.cells #[.string x.n, .string x.f, .int .i64 x.c, .int .i64 x.r, .string x.v] 99)).alloc (.cells #[.string y.n, .string y.f, .int .i64 y.c, .int .i64 y.r, .string y.v] 99)).drewN nq) cn cf 3
  have hs : (((W.alloc (.cells #[.string x.n, .string x.f, .int .i64 x.c, .int .i64 x.r, .string x.v] 99)).alloc (.cells #[.string y.n, .string y.f, .int .i64 y.c, .int .i64 y.r, .string y.v] 99)).drewN nq).heap.size = W.heap.size + 1 + 1 := by
    show ((W.alloc _).alloc _).heap.size = _
    rw [World.size_alloc, World.size_alloc]
  rw [hs] at c0 c1
  have hor := or_any (W.heap.size + 1 + 1) cn cf _ c0 c1
  clear c0 c1 hs h1 h2
  generalize (if cn = 0 then cf else cn) = co at *
  refine hor.mono ?_
  rintro e w' ⟨rfl, rfl⟩
  refine hK _ _ ?_
  clear hK K
  refine wpAny_ready (rs := [12]) (by kernel_rfl) (by simp) ?_
  refine AllReady.cons rfl (fun K hK => ?_) AllReady.nil
  go_simp
  refine hK _ _ ?_
  clear hK K
  refine wpAny_done (by kernel_rfl) ?_ _
  go_wp2
  go_ret
  refine ⟨by rw [HE.out]; rfl, nq, #[.cells #[.string x.n, .string x.f, .int .i64 x.c, .int .i64 x.r, .string x.v] 99] ++ #[.cells #[.string y.n, .string y.f, .int .i64 y.c, .int .i64 y.r, .string y.v] 99] ++ #[.cells #[.int .i64 cn, .int .i64 cf] 3], ?_⟩
  rw [alloc_eq_grow, alloc_eq_grow, alloc_eq_grow, grow_grow]
  exact grow_grow (W.drewN nq) _ _

@[reducible] def regInh : Inhabited Reg := ⟨zeroReg⟩

theorem getR! (l : List Reg) (i : Nat) (h : i < l.length) : @getElem! _ _ _ _ _ regInh l.toArray i = reg l i := by
  letI := regInh
  show l.toArray[i]! = _
  rw [getElem!_pos l.toArray i (by simpa using h)]
  simp [reg, List.getD, h]

theorem flat_row (l : List Reg) : (@Go.Sort.flatK Reg regInh Reg.cells 5 l.toArray).toList = rowCells l := by
  letI := regInh
  apply List.ext_getElem?
  intro t
  by_cases h : t < l.length * 5
  · have h1 : t / 5 < l.length := by omega
    have e := rowCells_get l (t / 5) (t % 5) h1 (by omega)
    have e2 : t / 5 * 5 + t % 5 = t := by omega
    rw [e2] at e
    rw [e]
    have h2 := Go.Sort.get_flatK Reg.cells 5 l.toArray t (by simpa using h)
    rw [getElem!_pos _ t (by simpa using h)] at h2
    rw [Array.getElem?_toList, Array.getElem?_eq_getElem (by simpa using h), h2]
    have h3 := getR! l (t / 5) h1
    rw [h3]
    have h4 : t % 5 < (reg l (t / 5)).cells.length := by show t % 5 < 5; omega
    rw [getElem!_pos (reg l (t / 5)).cells (t % 5) h4, List.getElem?_eq_getElem h4]
  · rw [List.getElem?_eq_none (by simp; omega), List.getElem?_eq_none (by rw [rowCells_length]; omega)]

theorem encLen (x : Reg) : x.cells.length = 5 := rfl
theorem isAggReg (w : World) : (isAgg 99).run Tryz.prog w = .ok true w := by kernel_rfl
theorem sizeOfReg (w : World) : (Go.sizeOf 99).run Tryz.prog w = .ok 5 w := by kernel_rfl

set_option maxHeartbeats 1000000 in
/-- slices.SortFunc(s, inOrder), s a row of ours -/
theorem sortRegs (base g cap : Nat) (l : List Reg) (w : World) (h : w.ownsRow base 99 5 (.slice (some ⟨g, 0, none⟩) l.length cap) l.length (rowCells l)) (hl : l.length < 1000000) :
    Calls Tryz.prog 105 #[.slice (some ⟨g, 0, none⟩) l.length cap, .func (.func 97) #[] #[]] w
      fun e w' => e = .returned (.tuple #[]) ∧ ∃ l' : List Reg, l'.Perm l ∧ l'.Pairwise (fun a b => aheadB b a = false) ∧ w'.ownsRow base 99 5 (.slice (some ⟨g, 0, none⟩) l.length cap) l.length (rowCells l') ∧ w.grownBy w' (some g) := by
  letI := regInh
  obtain ⟨hlen, ⟨he, _⟩ | ⟨g', c', cur, he, hbase, hb, h1, h2, h3, h4⟩⟩ := h
  · cases he
  · cases he
    have hg : g < w.heap.size := (Array.getElem?_eq_some_iff.1 hb).1
    have hH : Go.Sort.HoldsK Reg.cells 5 w g 0 l.toArray := by
      intro j hj
      have hj' : j < l.length * 5 := by simpa using hj
      refine ⟨?_, by simp [World.frozen?, hb]⟩
      have e1 : (cur.toList.take (l.length * 5))[j]? = (rowCells l)[j]? := by rw [h4]
      rw [List.getElem?_take_of_lt hj', ← flat_row l] at e1
      simp only [World.cell?, hb, Nat.zero_add]
      simp only [Option.isSome_none, Bool.false_eq_true, if_false]
      rw [← Array.getElem?_toList, e1, Array.getElem?_toList, Array.getElem?_eq_getElem hj, getElem!_pos _ j hj]
      rfl
    have eg : ∀ args w, (callFunc 97 args).run Tryz.prog w = .ok (.enter 97 args) w := enters_of Tryz.func97 (by kernel_rfl) rfl
    have hcmp : CmpLays Tryz.prog 97 #[] Reg.cells 5 cmpO g 0 l.toArray.size w := fun _ _ _ _ x y => inOrder_any x y _
    have hcon := AnyQ.slices_SortFunc Tryz.sortReg 5 isAggReg sizeOfReg Reg.cells encLen (fun x => cells_one x) cmpO swoO 97 #[] g 0 cap l.toArray w eg hcmp hH hg (by simp; omega)
    change Calls Tryz.prog 105 _ _ _ at hcon
    simp only [List.size_toArray] at hcon
    refine hcon.mono ?_
    rintro e w' ⟨rfl, d', nn, os, hp, hs, rfl⟩
    obtain ⟨hp1, hp2, hp3⟩ := hp
    have hds : d'.size = l.length := by simpa using hp1
    have hperm : d'.toList.Perm l := by
      have e1 : d'.extract 0 l.length = d' := by rw [← hds]; simp
      have e2 : l.toArray.extract 0 l.length = l.toArray := by simp
      rw [e1, e2] at hp3
      simpa using hp3
    refine ⟨rfl, d'.toList, hperm, ?_, ?_, ?_⟩
    · rw [List.pairwise_iff_getElem]
      intro i j hi hj hij
      have hi' : i < d'.size := by simpa using hi
      have hj' : j < d'.size := by simpa using hj
      have := hs i j (Nat.zero_le _) hij (by omega)
      rw [ltO, getElem!_pos d' i hi', getElem!_pos d' j hj'] at this
      simpa using this
    · refine ⟨by rw [rowCells_length]; simp [hds], .inr ⟨g, cap, Go.Sort.putCells id 0 (Go.Sort.flatK Reg.cells 5 d') cur, rfl, hbase, ?_, h1, h2, ?_, ?_⟩⟩
      · unfold sortWorldK Go.Sort.putRowK
        rw [Go.Sort.heap_grow_old _ _ (by simpa [Go.Sort.putRow, Go.Sort.mapBlock, Go.Sort.ahead] using hg)]
        simp [Go.Sort.putRow, Go.Sort.mapBlock, Go.Sort.ahead, Array.getElem?_modify, hb, Go.Sort.onCells]
      · simp [Go.Sort.putCells, h3]
      · have hfl := flat_row d'.toList
        simp only [Array.toArray_toList] at hfl
        rw [← hfl]
        apply List.ext_getElem?
        intro j
        by_cases hj : j < l.length * 5
        · rw [List.getElem?_take_of_lt hj, Array.getElem?_toList, Array.getElem?_toList]
          have hjc : j < cur.size := by rw [h3]; exact Nat.lt_of_lt_of_le hj (Nat.mul_le_mul_right _ h1)
          have hjf : j < (Go.Sort.flatK Reg.cells 5 d').size := by simpa [hds] using hj
          simp [Go.Sort.putCells, hjc, hds, hj]
        · rw [List.getElem?_take_eq_none (by omega), List.getElem?_eq_none (by simp [hds]; omega)]
    · refine ⟨rfl, rfl, rfl, by simp [sortWorldK, Go.Sort.putRowK, Go.Sort.putRow, Go.Sort.mapBlock, Go.Sort.ahead, grow], fun k hk hne => ?_⟩
      have hne' : g ≠ k := fun e => hne (by rw [e])
      unfold sortWorldK Go.Sort.putRowK
      rw [Go.Sort.heap_grow_old _ _ (by simpa [Go.Sort.putRow, Go.Sort.mapBlock, Go.Sort.ahead] using hk)]
      simp [Go.Sort.putRow, Go.Sort.mapBlock, Go.Sort.ahead, Array.getElem?_modify, hne']
end Go.Proofs.YtjhlijobdihplaaGreatDoor
namespace Go.Proofs.YtjhlijobdihplaaGreatDoor
open Go.RowKit Go.Maps Go.Shelf Go.Lib Go.Extern
attribute [local go_sem] Oper.semAt_some

theorem Tryz.infoApi : (Tryz.prog.info? 99).map (fun i => (i.zero, i.size, i.bytes)) = some (some (.agg #[.string ByteArray.empty, .string ByteArray.empty, .int .i64 0, .int .i64 0, .string ByteArray.empty]), 5, 64) := by kernel_rfl

/-- the blocks of a round that appends to the slice in box Bs -/
def fpBox (Bs : Nat) (W : World) (k : Nat) : Prop := k = Bs ∨ ∀ v, W.cell? ⟨Bs, 0, none⟩ = some v → v.ownBlock = some k

theorem fpBox_ok {Bs : Nat} {w : World} {t : TypeId} (h : Boxed w Bs t (.slice none 0 0)) : FpOk (fpBox Bs) w where
  old W hW k hk := by
    have hlt := h.lt
    rcases hk with rfl | hk
    · exact hlt
    · have hc : W.cell? ⟨Bs, 0, none⟩ = some (.slice none 0 0) := (hW.cell (p := ⟨Bs, 0, none⟩) hlt).trans h.cell
      have := hk _ hc
      simp [Value.ownBlock] at this
  kept A B row hA hg hr k hk := by
    have hlt := h.lt
    rcases hk with rfl | hk
    · exact .inl rfl
    · refine .inr fun v hv => hk v ?_
      refine cell_kept hv hg hr

theorem keepC_appended {W w1 : World} {Bs B : Nat} {t : TypeId} {v v' : Value} {tmp : Obj} (hv : Boxed W Bs t v) (hk : KeepsOthers W (w1.setCell ⟨Bs, 0, none⟩ v')) (hgrow : (W.alloc tmp).grownBy w1 v.ownBlock)
    (hv2 : Boxed (w1.setCell ⟨Bs, 0, none⟩ v') Bs t v') (hob : v'.ownBlock = v.ownBlock ∨ v'.ownBlock = some (W.alloc tmp).heap.size) : KeepC (fpBox Bs) B W (w1.setCell ⟨Bs, 0, none⟩ v') := by
  refine ⟨hk.walks, hk.size, fun k o _ hf ho _ => ?_, fun k hf => ?_⟩
  · have hlt := (Array.getElem?_eq_some_iff.1 ho).1
    have h1 : k ≠ Bs := fun e => hf (.inl e)
    have h2 : some k ≠ v.ownBlock := fun e => hf (.inr fun u hu => by
      rw [hv.cell] at hu; cases hu; exact e.symm)
    rw [Below.heap_setCell _ _ _ k (fun e => h1 e), hgrow.block k (by simp; omega) h2, Below.heap_alloc _ _ _ hlt]
    exact ho
  · rcases hf with rfl | hf
    · exact .inl (.inl rfl)
    · have := hf _ hv2.cell
      rcases hob with e | e
      · exact .inl (.inr fun u hu => by rw [hv.cell] at hu; cases hu; rw [← e]; exact this)
      · rw [e] at this; cases this
        exact .inr (by simp)

theorem keepL_alloc {fp : World → Nat → Prop} {w0 : World} (hfp : FpOk fp w0) {B : Nat} (W : World) (o : Obj) (hW : w0.heap.size ≤ W.heap.size) : KeepL fp B W (W.alloc o) :=
  ⟨by simp, fun k o2 _ _ ho2 _ => by rw [Below.heap_alloc _ _ _ (Array.getElem?_eq_some_iff.1 ho2).1]; exact ho2, fun k hk => .inl (hfp.kept _ _ none hW (World.grownBy_alloc W o none) (fun r e => by cases e) k hk)⟩

theorem five_own {w : World} {b : Nat} {x : Reg} (h : five w b x) {w' : World} {row : Option Nat} (hg : w.grownBy w' row) (hr : ∀ r, row = some r → ∃ o : Obj, w.heap[r]? = some o ∧ o.isCells = false) : five w' b x := by
  obtain ⟨h0, h1, h2, h3, h4⟩ := h
  exact ⟨cell_kept h0 hg hr, cell_kept h1 hg hr, cell_kept h2 hg hr, cell_kept h3 hg hr, cell_kept h4 hg hr⟩

/-- a function's value that tells the registers F, in some order, whatever lies beside it -/
structure Src (w : World) (f : Nat) (lb : Array Value) (F : List Reg) (n : Nat) : Prop where
  enters : ∀ args W, (callFunc f args).run Tryz.prog W = .ok (.enter f args) W
  seq : ∀ m, 10 ≤ m → ∀ W, Below w.heap.size w W → ∀ fp : World → Nat → Prop, FpOk fp W → (∀ k, k < w.heap.size → ¬ fp W k) → SeqStopsK Fence.wide m Tryz.prog f lb (fun x : Reg => #[Value.agg #[.string x.n, .string x.f, .int .i64 x.c, .int .i64 x.r, .string x.v]]) (KeepC fp 0)
      (fun xs => xs.Perm F) (fun pre => pre ≠ [] ∧ ∀ y ∈ pre, y ∈ F) n W
theorem Src.below {w W : World} {f : Nat} {lb : Array Value} {F : List Reg} {n : Nat} (h : Src w f lb F n) (hb : Below w.heap.size w W) : Src W f lb F n :=
  ⟨h.enters, fun m hm X hX fp hfp hnf => h.seq m hm X (hb.trans (hX.mono hb.size)) fp hfp (fun k hk => hnf k (Nat.lt_of_lt_of_le hk hb.size))⟩

set_option maxRecDepth 100000 in
set_option maxHeartbeats 2000000 in
theorem appendSeq_any (f : Nat) (lb : Array Value) (F : List Reg) (n : Nat) (w : World) (hS : Src w f lb F n) (hn : n ≤ 100000) :
    Calls Tryz.prog 120 #[.slice none 0 0, .func (.func f) #[] lb] w
      fun e w' => ∃ (xs : List Reg) (rv : Value), e = .returned rv ∧ xs.Perm F ∧ w'.ownsRow w.heap.size 99 5 rv xs.length (rowCells xs) ∧ (rv = .slice none 0 0 ↔ xs = []) ∧ Below w.heap.size w w' := by
  obtain ⟨i0, hi, hz0, hz1, hz2⟩ := info_parts Tryz.infoApi
  refine (callsIn_wide (n := 20)).1 ?_
  refine callsIn_of_wp_marks Tryz.func120 rfl trivial ?_ rfl
  simp only [Tryz.ntmps120, List.size_toArray, List.length_cons, List.length_nil, Nat.reduceAdd, Nat.reduceSub, Array.replicate_succ, Array.replicate_zero, List.push_toArray, List.append_toArray, List.nil_append, List.cons_append]
  gi_wp2
  have hbx : Boxed (w.alloc (.cells #[.slice none 0 0] 93)) w.heap.size 93 (.slice none 0 0) := Boxed.new w _ _
  have hW1 : Below w.heap.size w (w.alloc (.cells #[.slice none 0 0] 93)) := (Below.refl _ _).alloc (Nat.le_refl _) _
  obtain ⟨W0, hW0⟩ : ∃ W0, w.alloc (.cells #[.slice none 0 0] 93) = W0 := ⟨_, rfl⟩
  have hsz : W0.heap.size = w.heap.size + 1 := by rw [← hW0]; simp
  rw [hW0] at hbx hW1 ⊢
  have hfp := fpBox_ok hbx
  have hseq := hS.seq 19 (by omega) W0 hW1 (fpBox w.heap.size) hfp (fun k hk h => by
    rcases h with rfl | h
    · omega
    · have := h _ hbx.cell; simp [Value.ownBlock] at this)
  refine wpIn_rangeFunc_ownH rfl (by omega) (gf := f) (lb := lb) rfl trivial hS.enters
    hseq keepC_t (keepC_b hfp (Nat.le_refl _)) (Below.refl _ _) (fun _ => rfl)
    (fun pre W => (∃ rv, Boxed W w.heap.size 93 rv ∧ W.ownsRow w.heap.size 99 5 rv pre.length (rowCells pre) ∧ (rv = .slice none 0 0 ↔ pre = [])) ∧ Below w.heap.size w W)
    (fun _ _ _ => False)
    (OwnFrom.and (Own.from (holdsRow_own w.heap.size w.heap.size 93 99 5 (fun pre => pre.length) (fun pre => rowCells pre) (fun pre rv => rv = .slice none 0 0 ↔ pre = [])) _) (ownFrom_below (Nat.le_refl _) (by omega)))
    (fun c => Own.from (fun s A B row hs hg hr => hs) _)
    ⟨⟨_, hbx, World.ownsRow_nil _ _ _ _, by simp⟩, hW1⟩
    (fun x a' W => ∃ Bx, W0.heap.size ≤ Bx ∧ five W Bx x ∧ a' = { tmps := #[.slice none 0 0, .func (.func f) #[] lb, .pointer (some ⟨w.heap.size, 0, none⟩), undef, .slice none 0 0, .pointer (some ⟨Bx, 0, none⟩), .func (.func f) #[] lb, .agg #[.string x.n, .string x.f, .int .i64 x.c, .int .i64 x.r, .string x.v], undef, undef, undef, undef, undef], defers := [] })
    (fun x a' => Own.from (fun s A B row hs hg hr => by obtain ⟨Bx, h1, h2, h3⟩ := hs; exact ⟨Bx, h1, five_own h2 hg hr, h3⟩) _)
    ?assign ?body ?done ?stop
  case assign =>
    rintro lq pre x W K ⟨⟨rv, hb, hr, hnil⟩, hBl⟩ hK
    have hs2 := hBl.size
    gi_wp2
    refine hK _ _ ((KeepsOthers.alloc _ _).from _) ?_ ?_ ?_
    · exact ⟨KeepsWalks.alloc _ _, keepL_alloc hfp _ _ (by have := hb.lt; omega)⟩
    · exact ⟨⟨rv, hb.alloc _, hr.alloc _, hnil⟩, hBl.alloc hs2 _⟩
    · exact ⟨W.heap.size, by have := (Array.getElem?_eq_some_iff.1 hb).1; omega, ⟨by simp, by simp, by simp, by simp, by simp⟩, rfl⟩
  case body =>
    rintro lq pre x a' W hlq ⟨r, hr⟩ ⟨⟨rv, hb, hrow, hnil⟩, hBl⟩ ⟨Bx, hBx, hf, rfl⟩ hlen
    obtain ⟨z0, z1, z2, z3, z4⟩ := hf
    have hc := hb.cell
    have hBs := hBl.size

    gi_wp2_with (gi_at_builtin; go_must (refine wpListIn_append_own_at _ rfl _ _ 93 rfl w.heap.size 99 i0 _ 5 64 Tryz.underlying93 hi hz0 hz1 hz2 rfl (by decide) _ _ _ rfl (hrow.alloc _) ⟨W.heap.size, 0, none⟩ 1 1 x.cells rfl rfl (news_new W x.cells _) (cells_one x) (by unfold maxLen; omega) (by omega) (by simp; omega) ?_); intro v' w1 hown' hgrow _ hob; obtain ⟨g', cap', rfl⟩ := ownsRow_succ hown'; obtain ⟨hv1, hv2, hr2, hk2, hb2⟩ := hb.appended (by decide) hrow hBl.size (Nat.le_refl _) hown' hgrow; have hc1 := hv1.cell; have hf1 := hv1.frozen)
    refine ⟨hk2.from _, keepC_appended hb hk2 hgrow hv2 hob, ⟨_, hv2, ?_, by simp⟩, hBl.trans hb2⟩
    rw [rowCells_append, List.length_append]
    exact hr2
  case done =>
    rintro D ys W hD hS2 ⟨⟨rv, hb, hrow, hnil⟩, hBl⟩ hK
    have hc := hb.cell
    gi_wp2
    refine ⟨by simp, .inl ⟨_, _, rfl, run_takeDeferred hK, ?_⟩⟩
    refine ⟨rv, ?_, ys, rv, rfl, hS2, ownsRow_putObj hrow _ hK rfl, hnil, hBl.trans (belowK_b (w := w) (Nat.le_refl _) W D _ _ (by omega) hK rfl rfl)⟩
    simp [results, Tryz.f120, go_sem]
  case stop =>
    rintro D c pre W hD _ h
    exact h.elim

/-- what is in order and a permutation of what is in order is it -/
theorem list_of_perm {F : List Reg} (hF : SortedB F) {xs : List Reg} (hp : xs.Perm F) (hw : xs.Pairwise (fun a b => aheadB b a = false)) : xs = F := by
  have hord : F.Pairwise (fun a b => aheadB b a = false) := List.Pairwise.imp (fun h => ahead_asymm h) hF
  refine List.Perm.eq_of_pairwise (le := fun a b => aheadB b a = false) ?_ hw hord hp
  intro a b ha hb h1 h2
  obtain ⟨i, hi, rfl⟩ := List.getElem_of_mem (hp.mem_iff.1 ha)
  obtain ⟨j, hj, rfl⟩ := List.getElem_of_mem hb
  rcases Nat.lt_trichotomy i j with h | h | h
  · have := List.pairwise_iff_getElem.1 hF i j hi hj h
    rw [h2] at this; cases this
  · subst h; rfl
  · have := List.pairwise_iff_getElem.1 hF j i hj hi h
    rw [h1] at this; cases this
theorem fieldsL_sorted {l : List Reg} (hs : SortedB l) (name : ByteArray) : SortedB (fieldsL l name) := List.Pairwise.filter _ hs
end Go.Proofs.YtjhlijobdihplaaGreatDoor
namespace Go.Proofs.YtjhlijobdihplaaGreatDoor
open Go.RowKit Go.Maps Go.Shelf Go.Lib Go.Extern

set_option maxRecDepth 100000 in
set_option maxHeartbeats 1000000 in
theorem collect_any (f : Nat) (lb : Array Value) (F : List Reg) (n : Nat) (w : World) (hS : Src w f lb F n) (hn : n ≤ 100000) :
    Calls Tryz.prog 104 #[.func (.func f) #[] lb] w
      fun e w' => ∃ (xs : List Reg) (rv : Value), e = .returned rv ∧ xs.Perm F ∧ w'.ownsRow w.heap.size 99 5 rv xs.length (rowCells xs) ∧ (rv = .slice none 0 0 ↔ xs = []) ∧ Below w.heap.size w w' := by
  have h := appendSeq_any f lb F n w hS hn
  go_enter Tryz.func104, Tryz.ntmps104
  go_wp2_with (go_at_call 120; refine h.mono ?_; rintro e w' ⟨xs, rv, rfl, hp⟩)
  go_ret
  exact ⟨xs, rv, rfl, hp⟩


theorem below_row {w w' : World} {g : Nat} {B : Nat} (h : w.grownBy w' (some g)) (hg : B ≤ g) (hB : B ≤ w.heap.size) : Below B w w' :=
  (Below.refl B w).grown h hB (fun k e => by cases e; exact hg)

set_option maxRecDepth 100000 in
set_option maxHeartbeats 1000000 in
theorem sortedFunc_any (f : Nat) (lb : Array Value) (F : List Reg) (n : Nat) (w : World) (hS : Src w f lb F n) (hn : n ≤ 100000) (hF : SortedB F) (hlen : F.length ≤ 100000) :
    Calls Tryz.prog 96 #[.func (.func f) #[] lb, .func (.func 97) #[] #[]] w
      fun e w' => ∃ rv : Value, e = .returned rv ∧ w'.ownsRow w.heap.size 99 5 rv F.length (rowCells F) ∧ Below w.heap.size w w' := by
  have h := collect_any f lb F n w hS hn
  go_enter Tryz.func96, Tryz.ntmps96
  go_wp2_with (go_at_call 104; refine h.mono ?_; rintro e w' ⟨xs, rv, rfl, hp, hrow, hnil, hb⟩; rcases hrow.2 with ⟨rfl, h0⟩ | ⟨g, cap, cur, rfl, hrest⟩)
  · have hx : xs = [] := List.eq_nil_of_length_eq_zero h0
    subst hx
    have hF0 : F = [] := List.Perm.nil_eq hp |>.symm
    have hso := AnyF.slices_SortFunc_none Tryz.sortReg none 0 (.func (.func 97) #[] #[]) w'
    change Calls Tryz.prog 105 _ _ _ at hso
    refine hso.mono ?_
    rintro e w2 ⟨rfl, rfl⟩
    go_wp2
    go_ret
    rw [hF0]
    exact ⟨_, rfl, hrow, hb⟩
  · have hxl : xs.length ≤ 100000 := by rw [hp.length_eq]; exact hlen
    have hso := sortRegs w.heap.size g cap xs w' hrow (by omega)
    have hfr := hrest.1
    clear hrest hrow
    refine hso.mono ?_
    rintro e w2 ⟨rfl, l', hp2, hpw, hrow2, hg2⟩
    go_wp2
    go_ret
    have hE := list_of_perm hF (hp2.trans hp) hpw
    subst hE
    rw [← hp.length_eq] 
    exact ⟨_, rfl, hrow2, hb.trans (below_row hg2 hfr hb.size)⟩
end Go.Proofs.YtjhlijobdihplaaGreatDoor
