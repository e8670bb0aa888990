import Derived.Test.YtjhlijobdihplaaGreatDoorM21
import Derived.Test.YtjhlijobdihplaaGreatDoorM20
import Derived.Test.YtjhlijobdihplaaGreatDoorM11
namespace Go.Proofs.YtjhlijobdihplaaGreatDoor
open Go.RowKit Go.Maps Go.Shelf
attribute [local go_sem] Oper.semAt_some

set_option maxRecDepth 100000 in
set_option maxHeartbeats 1000000 in
theorem beginning1_nil (m : Nat) (bb pbx p o : Nat) (s : ByteArray) (w : World) (h1 : w.cell? ⟨bb, 0, none⟩ = some (.pointer (some ⟨p, o, none⟩))) (hc : w.cell? ⟨p, o, none⟩ = some (.map none)) (fp : World → Nat → Prop) (B N : Nat) :
    SeqStopsK Fence.wide m Tryz.prog 102 #[.pointer (some ⟨bb, 0, none⟩), .pointer (some ⟨pbx, 0, none⟩)] (fun x : Reg => #[Value.agg #[.string x.n, .string x.f, .int .i64 x.c, .int .i64 x.r, .string x.v]]) (KeepC fp B)
      (fun xs => xs.Perm (beginL [] s)) (fun pre => pre ≠ [] ∧ ∀ y ∈ pre, y ∈ beginL [] s) N w := fun lp J Jx W hW hJ hJx hY h0 => by
  have l1 := lt_of_cell h1
  have l3 := lt_of_cell hc
  have c1 : W.cell? ⟨bb, 0, none⟩ = some (.pointer (some ⟨p, o, none⟩)) := (hW.cell (p := ⟨bb, 0, none⟩) l1).trans h1
  have c3 : W.cell? ⟨p, o, none⟩ = some (.map none) := (hW.cell (p := ⟨p, o, none⟩) l3).trans hc
  have hrg := run_range_nilMap (P := Tryz.prog) W 104 9 150 Tryz.underlying104
  have hnx := fun ty => run_next_nilMap (P := Tryz.prog) W ty 0 0 #[]
  have HJ : Hid (J [] (W.alloc (.mapIter none 0 #[] 0))) := hJ _ _ _ none h0 (World.grownBy_alloc W _ none) (fun r e => by cases e)
  clear hY hJ hJx h0
  refine callsIn_wide.2 ?_
  show Calls Tryz.prog 102 #[.func (.yield lp) #[] #[], .pointer (some ⟨bb, 0, none⟩), .pointer (some ⟨pbx, 0, none⟩)] W _
  go_enter Tryz.func102, Tryz.ntmps102
  go_wp2
  refine wp_loop_rounds 1 ?_
  rw [rounds_succ]
  go_wp2
  go_end0
  exact ⟨⟨_, rfl⟩, .inl ⟨[], List.Perm.refl _, HJ.out⟩⟩

theorem begin_src (bb pbx p o n M : Nat) (v : Value) (nb : ByteArray → Nat) (l : List Reg) (s : ByteArray) (w : World) (hv : ∃ r, v = .map r) (h1 : w.cell? ⟨bb, 0, none⟩ = some (.pointer (some ⟨p, o, none⟩))) (h2 : w.cell? ⟨pbx, 0, none⟩ = some (.string s)) (hc : w.cell? ⟨p, o, none⟩ = some v)
    (hB : BookAt w v M nb l n) (hS : SortedB l) (hs : s.size ≤ maxLen) (hN : ∀ y ∈ l, y.n.size ≤ 100 ∧ y.f.size ≤ 100) (hl : l.length ≤ n) : Src w 102 #[.pointer (some ⟨bb, 0, none⟩), .pointer (some ⟨pbx, 0, none⟩)] (beginL l s) n where
  enters := enters_of Tryz.func102 (by kernel_rfl) rfl
  seq m hm W hW fp hfp hnf := by
    have q1 := (hW.cell (p := ⟨bb, 0, none⟩) (lt_of_cell h1)).trans h1
    have q2 := (hW.cell (p := ⟨pbx, 0, none⟩) (lt_of_cell h2)).trans h2
    have q3 := (hW.cell (p := ⟨p, o, none⟩) (lt_of_cell hc)).trans hc
    rcases hB with ⟨rfl, rfl⟩ | ⟨rfl, h⟩
    · exact beginning1_nil m bb pbx p o s W q1 q3 fp 0 n
    · exact beginning1_stops m (by omega) bb pbx p o M n nb l s W q1 q2 q3 (h.block (fun k hk => hW.block k (h.lt k hk))) hS hs hN hl fp hfp (hnf pbx (lt_of_cell h2))

set_option maxHeartbeats 400000 in
theorem beginning_any (a : Option Addr) (s : ByteArray) (w : World) :
    Calls Tryz.prog 90 #[.pointer a, .string s] w fun e w' => e = .returned (.func (.func 102) #[] #[.pointer (some ⟨w.heap.size, 0, none⟩), .pointer (some ⟨w.heap.size + 1, 0, none⟩)]) ∧ w' = (w.alloc (.cells #[.pointer a] 147)).alloc (.cells #[.string s] 9) := by
  go_enter Tryz.func90, Tryz.ntmps90
  go_wp2
  go_ret
  exact ⟨rfl, rfl⟩

/-- the world behind book.Registers: three boxes -/
def regsW (w : World) (a : Option Addr) (s : ByteArray) : World := ((w.alloc (.cells #[.pointer a] 147)).alloc (.cells #[.string s] 9)).alloc (.cells #[.func (.func 102) #[] #[.pointer (some ⟨w.heap.size, 0, none⟩), .pointer (some ⟨w.heap.size + 1, 0, none⟩)]] 127)
theorem regsW_below (w : World) (a : Option Addr) (s : ByteArray) : Below w.heap.size w (regsW w a s) := (((Below.refl _ w).alloc (Nat.le_refl _) _).alloc (by simp) _).alloc (by simp; omega) _
theorem regsW_cells (w : World) (a : Option Addr) (s : ByteArray) : (regsW w a s).heap[w.heap.size]? = some (.cells #[.pointer a] 147 (0, 0)) ∧ (regsW w a s).heap[w.heap.size + 1]? = some (.cells #[.string s] 9 (0, 0)) ∧
    (regsW w a s).heap[w.heap.size + 1 + 1]? = some (.cells #[.func (.func 102) #[] #[.pointer (some ⟨w.heap.size, 0, none⟩), .pointer (some ⟨w.heap.size + 1, 0, none⟩)]] 127 (0, 0)) ∧ (regsW w a s).heap.size = w.heap.size + 3 := by
  unfold regsW
  have e1 : (w.alloc (.cells #[.pointer a] 147)).heap.size = w.heap.size + 1 := by simp
  have e2 : ((w.alloc (.cells #[.pointer a] 147)).alloc (.cells #[.string s] 9)).heap.size = w.heap.size + 1 + 1 := by simp
  refine ⟨?_, ?_, ?_, by simp⟩
  · rw [Below.heap_alloc _ _ _ (by omega), Below.heap_alloc _ _ _ (by omega)]
    exact World.alloc_heap_new w _
  · rw [Below.heap_alloc _ _ _ (by omega)]
    have := World.alloc_heap_new (w.alloc (.cells #[.pointer a] 147)) (.cells #[.string s] 9)
    rw [e1] at this; exact this
  · have := World.alloc_heap_new ((w.alloc (.cells #[.pointer a] 147)).alloc (.cells #[.string s] 9)) (.cells #[.func (.func 102) #[] #[.pointer (some ⟨w.heap.size, 0, none⟩), .pointer (some ⟨w.heap.size + 1, 0, none⟩)]] 127)
    rw [e2] at this; exact this

set_option maxHeartbeats 400000 in
theorem bookRegs_any (a : Option Addr) (s : ByteArray) (w : World) :
    Calls Tryz.prog 73 #[.pointer a, .string s] w fun e w' => e = .returned (.func (.func 95) #[] #[.pointer (some ⟨w.heap.size + 1 + 1, 0, none⟩)]) ∧ w' = regsW w a s := by
  have h1 := beginning_any a s w
  have h2 := sorted_any 102 #[.pointer (some ⟨w.heap.size, 0, none⟩), .pointer (some ⟨w.heap.size + 1, 0, none⟩)] ((w.alloc (.cells #[.pointer a] 147)).alloc (.cells #[.string s] 9))
  simp only [World.size_alloc] at h2
  go_enter Tryz.func73, Tryz.ntmps73
  go_wp2_with (first | (go_at_call 90; refine h1.mono ?_; rintro e w1 ⟨rfl, rfl⟩) | (go_at_call 84; refine h2.mono ?_; rintro e w1 ⟨rfl, rfl⟩))
  go_ret
  exact ⟨rfl, rfl⟩

set_option maxHeartbeats 400000 in
theorem registers_any (p : Nat) (w : World) :
    Calls Tryz.prog 70 #[.pointer (some ⟨p, 0, none⟩)] w fun e w' => e = .returned (.func (.func 95) #[] #[.pointer (some ⟨w.heap.size + 1 + 1, 0, none⟩)]) ∧ w' = regsW w (some ⟨p, 1, none⟩) ⟨#[]⟩ := by
  have h1 := made_any p w
  have h2 := bookRegs_any (some ⟨p, 1, none⟩) ⟨#[]⟩ w
  go_enter Tryz.func70, Tryz.ntmps70
  go_wp2_with (first | (go_at_call 58; refine h1.mono ?_; rintro e w1 ⟨rfl, rfl⟩) | (go_at_call 73; refine h2.mono ?_; rintro e w1 ⟨rfl, rfl⟩))
  go_ret
  exact ⟨rfl, rfl⟩

theorem beginsB_empty (x : ByteArray) : beginsB x ⟨#[]⟩ = true := by
  unfold beginsB
  have e : (ByteArray.mk #[]).size = 0 := rfl
  have e2 : x.extract 0 0 = ⟨#[]⟩ := by
    apply ByteArray.ext
    simp
  rw [e, e2, eqS_self]
  simp
theorem beginL_empty (l : List Reg) : beginL l ⟨#[]⟩ = l := by
  unfold beginL
  rw [List.filter_eq_self]
  intro y _
  exact beginsB_empty _

theorem yieldOkS_of {Yf : Fn} {Yc : Array Value} {J Jx : List Reg → World → Prop} {fp : World → Nat → Prop} {B N m : Nat} (h : YieldOkR Yf Yc J Jx fp B N) : YieldOkS (fun _ => True) Yf Yc J Jx fp B N m := by
  have hr : ∀ {pre x W1 e W'}, RoundOk J Jx fp B pre x W1 e W' → RoundS J Jx fp B pre x W1 e W' := fun h => h.elim (fun ⟨a, b, c, _⟩ => .inl ⟨a, b, c⟩) (fun ⟨a, b, _⟩ => .inr ⟨a, b⟩)
  rcases h with ⟨lp, h1, h2, h3⟩ | ⟨q0, q1, q2, q3, h1, h2, h3⟩
  · refine .inl ⟨lp, h1, h2, fun pre x W1 a b _ => ?_⟩
    obtain ⟨fn, tmps, assign, body, hy, hR⟩ := h3 m pre x W1 a b
    exact ⟨fn, tmps, assign, body, hy, hR.mono (fun _ _ h => hr h)⟩
  · exact .inr ⟨q0, q1, q2, q3, h1, h2, fun pre x W1 a b _ => (h3 pre x W1 a b).mono (fun _ _ h => hr h)⟩

/-- sorted's closure over beginning's: what it tells -/
theorem sorted_tells (rb f n : Nat) (lb : Array Value) (F : List Reg) (W : World) (c1 : W.cell? ⟨rb, 0, none⟩ = some (.func (.func f) #[] lb)) (hS : Src W f lb F n) (hFs : SortedB F) (hn : n ≤ 100000) (hFl : F.length ≤ 100000) : TellsR 95 #[.pointer (some ⟨rb, 0, none⟩)] F W :=
  fun Yf Yc m fp J Jx hm hfp hJ _ h0 hY => sorted1_any Yf Yc m (by omega) rb f n lb F W c1 hS hFs hn hFl fp hfp W.heap.size (Nat.le_refl _) J Jx (fun s X Y h g => hJ s X Y none h g (fun r e => by cases e)) h0 (fun _ => True) (fun _ _ => trivial) (yieldOkS_of hY)

/-- the source behind book.Registers(s), in a world in which its boxes and the replica lie -/
theorem regs_src {W : World} {B : Nat} {r : RD} {n : Nat} {s : ByteArray} (hr : Rep W r n) (h1 : W.heap[B]? = some (.cells #[.pointer (some ⟨r.p, 1, none⟩)] 147 (0, 0))) (h2 : W.heap[B + 1]? = some (.cells #[.string s] 9 (0, 0))) (hs : s.size ≤ maxLen) :
    Src W 102 #[.pointer (some ⟨B, 0, none⟩), .pointer (some ⟨B + 1, 0, none⟩)] (beginL r.l s) n :=
  begin_src B (B + 1) r.p 1 n r.M r.v r.nb r.l s W hr.isMap (by simp [World.cell?, h1]) (by simp [World.cell?, h2]) hr.cv hr.book hr.sorted hs (fun y hy => ⟨(hr.names y hy).n, (hr.names y hy).f⟩) hr.len

/-- contacts.Registers hands out what tells the book -/
theorem hands_any (w : World) (r : RD) (n : Nat) (hr : Rep w r n) (hn : n ≤ 5000) : HandsR w r.p r.l := by
  intro W hW
  refine (registers_any r.p W).mono ?_
  rintro e W1 ⟨rfl, rfl⟩
  refine ⟨_, rfl, regsW_below _ _ _, fun W' hs' hk => ?_⟩
  obtain ⟨b1, b2, b3, b4⟩ := regsW_cells W (some ⟨r.p, 1, none⟩) ⟨#[]⟩
  have hWs := hW.size
  have hb := regsW_below W (some ⟨r.p, 1, none⟩) ⟨#[]⟩
  have hlow : ∀ j, j < w.heap.size → W'.heap[j]? = w.heap[j]? := fun j hj => (hk j (by omega) (.inl hj)).trans ((hb.block j (by omega)).trans (hW.block j hj))
  have hr' : Rep W' r n := hr.keep (Nat.le_refl _) (hlow _ hr.lt) (fun k hf => hlow k (foot_lt hr hf))
  have d1 := (hk W.heap.size (by omega) (.inr (Nat.le_refl _))).trans b1
  have d2 := (hk (W.heap.size + 1) (by omega) (.inr (by omega))).trans b2
  have d3 := (hk (W.heap.size + 1 + 1) (by omega) (.inr (by omega))).trans b3
  have hsrc := regs_src hr' d1 d2 (by unfold maxLen; decide)
  rw [beginL_empty] at hsrc
  have hlen := hr.len
  exact sorted_tells (W.heap.size + 1 + 1) _ n _ r.l W' (by simp [World.cell?, d3]) hsrc hr.sorted (by omega) (by omega)
end Go.Proofs.YtjhlijobdihplaaGreatDoor
