import Derived.Sort.CutIn
import Derived.Stop.RegionWithIn
import Derived.Test.YtjhlijobdihplaaGreatDoorM07
namespace Go.Proofs.YtjhlijobdihplaaGreatDoor
open Go.RowKit Go.Maps Go.Shelf Go.Lib Go.Extern
attribute [local go_sem] Oper.semAt_some

set_option maxHeartbeats 400000 in
theorem sorted_any (f : Nat) (lb : Array Value) (w : World) :
    Calls Tryz.prog 84 #[.func (.func f) #[] lb] w fun e w' => e = .returned (.func (.func 95) #[] #[.pointer (some ⟨w.heap.size, 0, none⟩)]) ∧ w' = w.alloc (.cells #[.func (.func f) #[] lb] 127) := by
  go_enter Tryz.func84, Tryz.ntmps84
  go_wp2
  go_ret
  exact ⟨rfl, rfl⟩
set_option maxHeartbeats 400000 in
theorem seenM_any (a : Option Addr) (name : ByteArray) (w : World) :
    Calls Tryz.prog 68 #[.pointer a, .string name] w fun e w' => e = .returned (.func (.func 95) #[] #[.pointer (some ⟨w.heap.size + 1 + 1, 0, none⟩)]) ∧
      w' = ((w.alloc (.cells #[.pointer a] 147)).alloc (.cells #[.string name] 9)).alloc (.cells #[.func (.func 94) #[] #[.pointer (some ⟨w.heap.size, 0, none⟩), .pointer (some ⟨w.heap.size + 1, 0, none⟩)]] 127) := by
  have h1 := seen_any a name w
  have h2 := sorted_any 94 #[.pointer (some ⟨w.heap.size, 0, none⟩), .pointer (some ⟨w.heap.size + 1, 0, none⟩)] ((w.alloc (.cells #[.pointer a] 147)).alloc (.cells #[.string name] 9))
  simp only [World.size_alloc] at h2
  go_enter Tryz.func68, Tryz.ntmps68
  go_wp2_with (first | (go_at_call 83; refine h1.mono ?_; rintro e w1 ⟨rfl, rfl⟩) | (go_at_call 84; refine h2.mono ?_; rintro e w1 ⟨rfl, rfl⟩))
  go_ret
  exact ⟨rfl, rfl⟩

theorem ownsRow_shape {w : World} {base : Nat} {e : TypeId} {size : Nat} {v : Value} {n : Nat} {xs : List Value} (h : w.ownsRow base e size v n xs) : ∃ a cap, v = .slice a n cap := by
  rcases h.2 with ⟨rfl, rfl⟩ | ⟨_, _, _, rfl, _⟩
  · exact ⟨_, _, rfl⟩
  · exact ⟨_, _, rfl⟩
theorem ownsRow_zero {w : World} {base : Nat} {e : TypeId} {size : Nat} {v : Value} {n : Nat} {xs : List Value} (h : w.ownsRow base e size v n xs) : w.ownsRow 0 e size v n xs := by
  refine ⟨h.1, ?_⟩
  rcases h.2 with h0 | ⟨g, cap, cur, q1, q2, q3⟩
  · exact .inl h0
  · exact .inr ⟨g, cap, cur, q1, Nat.zero_le _, q3⟩
theorem Bk.block {t : TypeId} {W W' : World} {v : Value} {l : List Reg} (h : Bk t W v l) (hb : ∀ g, v.ownBlock = some g → W'.heap[g]? = W.heap[g]?) : Bk t W' v l := by
  refine ⟨h.1, ?_⟩
  rcases h.2 with h0 | ⟨g, cap, cur, rfl, q2, q3, q4⟩
  · exact .inl h0
  · exact .inr ⟨g, cap, cur, rfl, q2, (hb g rfl).trans q3, q4⟩

theorem FpOk.below {fp : World → Nat → Prop} {W W' : World} (h : FpOk fp W) (hb : Below W.heap.size W W') : FpOk fp W' where
  old X hX k hk := Nat.lt_of_lt_of_le (h.old X (hb.trans (hX.mono hb.size)) k hk) hb.size
  kept A B row hA := h.kept A B row (Nat.le_trans hb.size hA)

/-- what a round must do, whichever way it is called -/
def RoundS (J Jx : List Reg → World → Prop) (fp : World → Nat → Prop) (B : Nat) (pre : List Reg) (x : Reg) (W1 : World) (e : Ending) (W' : World) : Prop :=
  (e = .returned (.bool true) ∧ J (pre ++ [x]) W' ∧ KeepL fp B W1 W') ∨ (e = .returned (.bool false) ∧ Jx (pre ++ [x]) W')
/-- the value that is called (a loop's 'yield', or plain.Registers' own function), and that its rounds are well -/
def YieldOkS (ok : Reg → Prop) (Yf : Fn) (Yc : Array Value) (J Jx : List Reg → World → Prop) (fp : World → Nat → Prop) (B N m : Nat) : Prop :=
  (∃ lp, Yf = .yield lp ∧ Yc = #[] ∧ ∀ pre x W1, J pre W1 → pre.length < N → ok x → YieldAt Fence.wide m Tryz.prog lp #[Value.agg #[.string x.n, .string x.f, .int .i64 x.c, .int .i64 x.r, .string x.v]] W1 (RoundS J Jx fp B pre x W1)) ∨
  (∃ q0 q1 q2 q3, Yf = .func 71 ∧ Yc = #[.pointer (some q0), .pointer (some q1), .pointer (some q2), .pointer (some q3)] ∧ ∀ pre x W1, J pre W1 → pre.length < N → ok x → Calls Tryz.prog 71 #[Value.agg #[.string x.n, .string x.f, .int .i64 x.c, .int .i64 x.r, .string x.v], .pointer (some q0), .pointer (some q1), .pointer (some q2), .pointer (some q3)] W1 (RoundS J Jx fp B pre x W1))

set_option maxRecDepth 100000 in
set_option maxHeartbeats 2000000 in
/-- sorted's closure tells F, in order -/
theorem sorted1_any (Yf : Fn) (Yc : Array Value) (m : Nat) (hm : 2 ≤ m) (rb f n : Nat) (lb : Array Value) (F : List Reg) (W : World) (c1 : W.cell? ⟨rb, 0, none⟩ = some (.func (.func f) #[] lb)) (hS : Src W f lb F n) (hFs : SortedB F) (hn : n ≤ 100000) (hFl : F.length ≤ 100000)
    (fp : World → Nat → Prop) (hfp : FpOk fp W) (B : Nat) (hB : B ≤ W.heap.size) (J Jx : List Reg → World → Prop) (hJ : ∀ s X Y, J s X → X.grownBy Y none → J s Y) (h0 : J [] W) (ok : Reg → Prop) (hok : ∀ y ∈ F, ok y) (hY : YieldOkS ok Yf Yc J Jx fp B F.length (m - 1)) :
    CallsIn Fence.wide m Tryz.prog 95 #[.func Yf #[] Yc, .pointer (some ⟨rb, 0, none⟩)] W fun e W' => (∃ v, e = .returned v) ∧ (J F W' ∨ ∃ k, 0 < k ∧ Jx (F.take k) W') := by
  have l1 : rb < W.heap.size := by
    rcases Nat.lt_or_ge rb W.heap.size with h' | h'
    · exact h'
    · simp [World.cell?, Array.getElem?_eq_none h'] at c1
  have hso : ∀ W', Below W.heap.size W W' → Calls Tryz.prog 96 #[.func (.func f) #[] lb, .func (.func 97) #[] #[]] W'
      fun e w' => ∃ rv : Value, e = .returned rv ∧ w'.ownsRow W.heap.size 99 5 rv F.length (rowCells F) ∧ Below W.heap.size W w' := fun W' h => by
    have hs' := h.size
    refine (sortedFunc_any f lb F n W' (hS.below h) hn hFs hFl).mono ?_
    rintro e w' ⟨rv, he, hrow, hb⟩
    refine ⟨rv, he, ⟨hrow.1, ?_⟩, h.trans (hb.mono hs')⟩
    rcases hrow.2 with h0 | ⟨g, cap, cur, q1, q2, q3⟩
    · exact .inl h0
    · exact .inr ⟨g, cap, cur, q1, by omega, q3⟩
  refine callsIn_of_wp Tryz.func95 rfl trivial ?_ rfl
  simp only [Tryz.ntmps95, List.size_toArray, List.length_cons, List.length_nil, Nat.reduceAdd, Nat.reduceSub, Array.replicate_succ, Array.replicate_zero, List.push_toArray, List.append_toArray, List.nil_append, List.cons_append]
  clear hS hFs
  gi_wp2
  refine ⟨trivial, fun _ => by omega, ?_⟩
  refine (callsIn_wide.2 (hso W (Below.refl _ _))).mono ?_
  rintro e wc ⟨rv, rfl, hrow, hb⟩
  clear hso c1
  obtain ⟨ra, rcap, rfl⟩ := ownsRow_shape hrow
  have hbk : Bk 99 wc (.slice ra F.length rcap) F := ownsRow_zero hrow
  have hra : ∀ g, ra = some ⟨g, 0, none⟩ → W.heap.size ≤ g := fun g e => by subst e; exact (hrow.lt g rfl).1
  have hnf : ∀ g, ra = some ⟨g, 0, none⟩ → ¬ fp wc g := fun g e h => by
    have h1 := hra g e
    have h2 := hfp.old _ (Below.refl _ _) _ (hfp.kept _ _ none (Nat.le_refl _) (below_grown hb) (fun r e => by cases e) _ h)
    omega
  have hJ0 : J [] wc := hJ _ _ _ h0 (below_grown hb)
  have hsz := hb.size
  clear hrow hb h0
  gi_wp2
  gi_loopg [8] F.length (fun q s wr => ∃ k : Nat, q + k = F.length ∧ s = .int .i64 k ∧ Bk 99 wr (.slice ra F.length rcap) F ∧ J (F.take k) wr ∧ (∀ g, ra = some ⟨g, 0, none⟩ → ¬ fp wr g) ∧ W.heap.size ≤ wr.heap.size)
  case atStart => exact ⟨0, by omega, rfl, hbk, hJ0, hnf, hsz⟩
  case round =>
    obtain ⟨k, hq, rfl, hbk1, hJ1, hnf1, hsz1⟩ := hrel
    clear hbk hJ0 hnf hsz
    by_cases hlt : k < F.length
    · obtain ⟨g, rfl⟩ := hbk1.shape.2 (by intro h; simp [h] at hlt)
      obtain ⟨c0, c1, c2, c3, c4⟩ := hbk1.five k hlt
      have HT : Hid (F.take (k + 1) = F.take k ++ [reg F k]) := take_reg F k hlt
      obtain ⟨X, hX⟩ : ∃ X, wr.alloc (.cells #[.string (reg F k).n, .string (reg F k).f, .int .i64 (reg F k).c, .int .i64 (reg F k).r, .string (reg F k).v] 99) = X := ⟨_, rfl⟩
      have hJ2 : J (F.take k) X := by rw [← hX]; exact hJ _ _ _ hJ1 (World.grownBy_alloc wr _ none)
      have hgW := hra g rfl
      have HAF : Hid (∀ W5, KeepL fp B X W5 → Bk 99 W5 (.slice (some ⟨g, 0, none⟩) F.length rcap) F ∧ W.heap.size ≤ W5.heap.size ∧ ¬ fp W5 g) := by
        intro W5 hk5
        have hglt := hbk1.lt
        have hsX : X.heap.size = wr.heap.size + 1 := by rw [← hX]; simp
        have hnX : ¬ fp X g := fun h => hnf1 g rfl (hfp.kept _ _ none (by omega) (by rw [← hX]; exact World.grownBy_alloc wr _ none) (fun r e => by cases e) _ h)
        have hblk : W5.heap[g]? = wr.heap[g]? := by
          obtain ⟨o, ho⟩ : ∃ o, wr.heap[g]? = some o := ⟨_, Array.getElem?_eq_getElem hglt⟩
          have hoc : o.isCells = true := by
            obtain ⟨o2, ho2, h2⟩ := cells_of_cell c0
            rw [ho] at ho2; cases ho2; exact h2
          rw [ho]
          exact hk5.2.1 g o (by omega) hnX (by rw [← hX, Below.heap_alloc _ _ _ hglt]; exact ho) hoc
        refine ⟨hbk1.block (fun g' e => by cases e; exact hblk), by have := hk5.1; omega, fun h => ?_⟩
        rcases hk5.2.2 g h with h1 | h1
        · exact hnX h1
        · omega
      have hpl : (F.take k).length < F.length := by simp; omega
      have hokk := hok _ (reg_mem hlt)
      rcases hY with ⟨lp, rfl, rfl, hY⟩ | ⟨q0, q1, q2, q3, rfl, rfl, hY⟩
      · obtain ⟨fn, tmps, assign, body, hy, hR⟩ := hY (F.take k) (reg F k) X hJ2 hpl hokk
        clear hY hJ hJ1 hJ2 hbk1 hnf1 hra hpl hok hokk
        subst hX
        gi_wp2
        refine ⟨fun _ => by omega, ?_⟩
        refine hR.mono ?_
        rintro e W5 (⟨rfl, hJ5, hk5⟩ | ⟨rfl, hx5⟩)
        · obtain ⟨hB5, hs5, hn5⟩ := HAF.out W5 hk5
          gi_wp2
          gi_roundg (gk - 1)
          case measure => omega
          case rel => exact ⟨k + 1, by omega, by go_num, hB5, by rw [HT.out]; exact hJ5, fun g' e => by cases e; exact hn5, hs5⟩
        · gi_wp2
          refine bodyPost_ret (results_none rfl _ _ _) rfl ?_
          exact ⟨⟨_, rfl⟩, .inr ⟨k + 1, by omega, by rw [HT.out]; exact hx5⟩⟩
      · have hR := hY (F.take k) (reg F k) X hJ2 hpl hokk
        clear hY hJ hJ1 hJ2 hbk1 hnf1 hra hpl hok hokk
        subst hX
        gi_wp2
        refine ⟨trivial, fun _ => by omega, ?_⟩
        refine (callsIn_wide.2 hR).mono ?_
        rintro e W5 (⟨rfl, hJ5, hk5⟩ | ⟨rfl, hx5⟩)
        · obtain ⟨hB5, hs5, hn5⟩ := HAF.out W5 hk5
          gi_wp2
          gi_roundg (gk - 1)
          case measure => omega
          case rel => exact ⟨k + 1, by omega, by go_num, hB5, by rw [HT.out]; exact hJ5, fun g' e => by cases e; exact hn5, hs5⟩
        · gi_wp2
          refine bodyPost_ret (results_none rfl _ _ _) rfl ?_
          exact ⟨⟨_, rfl⟩, .inr ⟨k + 1, by omega, by rw [HT.out]; exact hx5⟩⟩
    · have e : F.take k = F := List.take_of_length_le (by omega)
      rw [e] at hJ1
      clear hY hJ hbk1 hnf1
      gi_wp2
      go_end0
      exact ⟨⟨_, rfl⟩, .inl hJ1⟩

theorem keepC_from {fp : World → Nat → Prop} {B B' : Nat} {W W' : World} (h : KeepC fp B W W') (hB : B ≤ B') : KeepC fp B' W W' :=
  ⟨h.1, h.2.1, fun k o hk => h.2.2.1 k o (Nat.le_trans hB hk), h.2.2.2⟩
theorem seqStopsK_mono {α : Type} {F : Fence} {n : Nat} {P : Program} {g : Nat} {lb : Array Value} {encs : α → Array Value} {Kp Kq : World → World → Prop} {S Sp : List α → Prop} {N : Nat} {w : World} (hk : ∀ A B, Kq A B → Kp A B) (h : SeqStopsK F n P g lb encs Kp S Sp N w) : SeqStopsK F n P g lb encs Kq S Sp N w :=
  fun l J Jx W hW hJ hJx hY h0 => h l J Jx W hW hJ hJx (fun pre x W1 h1 h2 => by
    obtain ⟨fn, tmps, assign, body, hy, hR⟩ := hY pre x W1 h1 h2
    exact ⟨fn, tmps, assign, body, hy, hR.mono (fun e W' hh => hh.elim (fun ⟨a, b, c⟩ => .inl ⟨a, b, hk _ _ c⟩) .inr)⟩) h0

theorem seen_src (bb nbx p o n M : Nat) (v : Value) (nb : ByteArray → Nat) (l : List Reg) (name : ByteArray) (w : World) (hv : ∃ r, v = .map r) (h1 : w.cell? ⟨bb, 0, none⟩ = some (.pointer (some ⟨p, o, none⟩))) (h2 : w.cell? ⟨nbx, 0, none⟩ = some (.string name)) (hc : w.cell? ⟨p, o, none⟩ = some v)
    (hB : BookAt w v M nb l n) (hS : SortedB l) (hs : name.size ≤ maxLen) : Src w 94 #[.pointer (some ⟨bb, 0, none⟩), .pointer (some ⟨nbx, 0, none⟩)] (fieldsL l name) n where
  enters := enters_of Tryz.func94 (by kernel_rfl) rfl
  seq m hm W hW fp hfp _ := by
    have lt_of : ∀ {q j : Nat} {u : Value}, w.cell? ⟨q, j, none⟩ = some u → q < w.heap.size := fun {q j u} h => by
      rcases Nat.lt_or_ge q w.heap.size with h' | h'
      · exact h'
      · simp [World.cell?, Array.getElem?_eq_none h'] at h
    refine seqStopsK_mono (Kp := KeepC fp W.heap.size) (fun A C h => keepC_from h (Nat.zero_le _)) ?_
    exact seen1_any m (by omega) bb nbx p o n v M nb l name W ((hW.cell (p := ⟨bb, 0, none⟩) (lt_of h1)).trans h1) ((hW.cell (p := ⟨nbx, 0, none⟩) (lt_of h2)).trans h2) ((hW.cell (p := ⟨p, o, none⟩) (lt_of hc)).trans hc) hv (hB.below hW) hS hs fp hfp

/-- the same, as an iterator of a loop -/
theorem sorted1_stops (m : Nat) (hm : 2 ≤ m) (rb f n : Nat) (lb : Array Value) (F : List Reg) (w : World) (c1 : w.cell? ⟨rb, 0, none⟩ = some (.func (.func f) #[] lb)) (hS : Src w f lb F n) (hFs : SortedB F) (hn : n ≤ 100000) (hFl : F.length ≤ 100000) (fp : World → Nat → Prop) (hfp : FpOk fp w) :
    SeqStopsK Fence.wide m Tryz.prog 95 #[.pointer (some ⟨rb, 0, none⟩)] (fun x : Reg => #[Value.agg #[.string x.n, .string x.f, .int .i64 x.c, .int .i64 x.r, .string x.v]]) (KeepL fp w.heap.size)
      (fun xs => xs = F) (fun pre => ∃ k, 0 < k ∧ pre = F.take k) F.length w := fun lp J Jx W hW hJ hJx hY h0 => by
  have l1 : rb < w.heap.size := by
    rcases Nat.lt_or_ge rb w.heap.size with h' | h'
    · exact h'
    · simp [World.cell?, Array.getElem?_eq_none h'] at c1
  refine (sorted1_any (.yield lp) #[] m hm rb f n lb F W ((hW.cell (p := ⟨rb, 0, none⟩) l1).trans c1) (hS.below hW) hFs hn hFl fp (hfp.below hW) w.heap.size hW.size J Jx (fun s X Y h g => hJ s X Y none h g (fun r e => by cases e)) h0 (fun _ => True) (fun _ _ => trivial) (.inl ⟨lp, rfl, rfl, fun pre x W1 a b _ => hY pre x W1 a b⟩)).mono ?_
  rintro e W' ⟨hv, h | ⟨k, hk, h⟩⟩
  · exact ⟨hv, .inl ⟨F, rfl, h⟩⟩
  · exact ⟨hv, .inr ⟨F.take k, ⟨k, hk, rfl⟩, h⟩⟩
end Go.Proofs.YtjhlijobdihplaaGreatDoor
namespace Go.Proofs.YtjhlijobdihplaaGreatDoor
open Go.RowKit Go.Maps Go.Shelf Go.Lib Go.Extern
attribute [local go_sem] Oper.semAt_some

set_option maxHeartbeats 400000 in
theorem made_any (p : Nat) (w : World) :
    Calls Tryz.prog 58 #[.pointer (some ⟨p, 0, none⟩)] w fun e w' => e = .returned (.pointer (some ⟨p, 0, none⟩)) ∧ w' = w := by
  go_enter Tryz.func58, Tryz.ntmps58
  go_wp2
  go_ret
  exact ⟨rfl, rfl⟩

set_option maxHeartbeats 400000 in
theorem fieldsC_any (a : Option Addr) (name : ByteArray) (w : World) :
    Calls Tryz.prog 44 #[.pointer a, .string name] w fun e w' => e = .returned (.func (.func 67) #[] #[.pointer (some ⟨w.heap.size, 0, none⟩), .pointer (some ⟨w.heap.size + 1, 0, none⟩)]) ∧ w' = (w.alloc (.cells #[.pointer a] 67)).alloc (.cells #[.string name] 9) := by
  go_enter Tryz.func44, Tryz.ntmps44
  go_wp2
  go_ret
  exact ⟨rfl, rfl⟩

theorem wpIn_noexit {F : Fence} {n : Nat} {P : Program} {c : Code} {K : Act → World → Prop} {Q' : Exit → Act → World → Prop} {a : Act} {w : World} (h : c.wpIn F n P (Exit.then K (fun _ _ _ => False)) a w) : c.wpIn F n P (Exit.then K Q') a w :=
  wpIn_mono h (fun e a' w' hq => by
    cases e with
    | normal => exact hq
    | exit id => exact hq.elim
    | goto l => exact hq.elim
    | ret => exact hq.elim
    | panic ch => exact hq.elim
    | outgrown => exact hq.elim)

theorem box4 (W : World) (a b c d : Value) (t1 t2 t3 t4 : TypeId) : ((((W.alloc (.cells #[a] t1)).alloc (.cells #[b] t2)).alloc (.cells #[c] t3)).alloc (.cells #[d] t4)).cell? ⟨W.heap.size, 0, none⟩ = some a ∧
    ((((W.alloc (.cells #[a] t1)).alloc (.cells #[b] t2)).alloc (.cells #[c] t3)).alloc (.cells #[d] t4)).cell? ⟨W.heap.size + 1, 0, none⟩ = some b ∧ ((((W.alloc (.cells #[a] t1)).alloc (.cells #[b] t2)).alloc (.cells #[c] t3)).alloc (.cells #[d] t4)).cell? ⟨W.heap.size + 1 + 1, 0, none⟩ = some c ∧
    ((((W.alloc (.cells #[a] t1)).alloc (.cells #[b] t2)).alloc (.cells #[c] t3)).alloc (.cells #[d] t4)).cell? ⟨W.heap.size + 1 + 1 + 1, 0, none⟩ = some d := by
  obtain ⟨h1, h2, h3⟩ := box3 W a b c t1 t2 t3
  refine ⟨?_, ?_, ?_, ?_⟩
  · rw [World.cell?_alloc_lt _ _ ⟨W.heap.size, 0, none⟩ (by simp; omega)]; exact h1
  · rw [World.cell?_alloc_lt _ _ ⟨W.heap.size + 1, 0, none⟩ (by simp)]; exact h2
  · rw [World.cell?_alloc_lt _ _ ⟨W.heap.size + 1 + 1, 0, none⟩ (by simp)]; exact h3
  · have := (Boxed.new (((W.alloc (.cells #[a] t1)).alloc (.cells #[b] t2)).alloc (.cells #[c] t3)) t4 d).cell
    rw [World.size_alloc, World.size_alloc, World.size_alloc] at this
    exact this

theorem keepL_from {fp : World → Nat → Prop} {B B' : Nat} {W W' : World} (h : KeepL fp B W W') (hB : B ≤ B') : KeepL fp B' W W' :=
  ⟨h.1, fun k o hk => h.2.1 k o (Nat.le_trans hB hk), h.2.2⟩
theorem keepsFrom_from {B B' : Nat} {W W' : World} (h : KeepsFrom B W W') (hB : B ≤ B') : KeepsFrom B' W W' :=
  ⟨h.size, fun k o hk => h.same k o (Nat.le_trans hB hk)⟩
theorem ownFrom_up {β : Type} {B B' : Nat} {I : β → World → Prop} (h : OwnFrom B I) (hB : B ≤ B') : OwnFrom B' I := fun s X Y row hs hg hr =>
  h s X Y row hs hg (fun r e => ⟨Nat.le_trans hB (hr r e).1, (hr r e).2⟩)

/-- what a round must do, whichever way it is called: e.g. 'yield' of a loop, or a function's value -/
def RoundOk (J Jx : List Reg → World → Prop) (fp : World → Nat → Prop) (B : Nat) (pre : List Reg) (x : Reg) (W1 : World) (e : Ending) (W' : World) : Prop :=
  (e = .returned (.bool true) ∧ J (pre ++ [x]) W' ∧ KeepL fp B W1 W' ∧ KeepsFrom B W1 W') ∨ (e = .returned (.bool false) ∧ Jx (pre ++ [x]) W' ∧ KeepsFrom B W1 W')

/-- the value that is called, and that its rounds are well -/
def YieldOk (Yf : Fn) (Yc : Array Value) (J Jx : List Reg → World → Prop) (fp : World → Nat → Prop) (B N : Nat) : Prop :=
  (∃ lp, Yf = .yield lp ∧ Yc = #[] ∧ ∀ m pre x W1, J pre W1 → pre.length < N → YieldAt Fence.wide m Tryz.prog lp #[.string x.f, .string x.v] W1 (RoundOk J Jx fp B pre x W1)) ∨
  (∃ q0 q1 q2 q3, Yf = .func 45 ∧ Yc = #[.pointer (some q0), .pointer (some q1), .pointer (some q2), .pointer (some q3)] ∧ ∀ pre x W1, J pre W1 → pre.length < N → Calls Tryz.prog 45 #[.string x.f, .string x.v, .pointer (some q0), .pointer (some q1), .pointer (some q2), .pointer (some q3)] W1 (RoundOk J Jx fp B pre x W1))

set_option maxRecDepth 100000 in
set_option maxHeartbeats 2000000 in
theorem fields1_any (Yf : Fn) (Yc : Array Value) (m : Nat) (hm : 8 ≤ m) (rb nbx p n M : Nat) (v : Value) (nb : ByteArray → Nat) (l : List Reg) (name : ByteArray) (W : World) (hv : ∃ r, v = .map r) (c1 : W.cell? ⟨rb, 0, none⟩ = some (.pointer (some ⟨p, 0, none⟩))) (c2 : W.cell? ⟨nbx, 0, none⟩ = some (.string name)) (hc : W.cell? ⟨p, 1, none⟩ = some v)
    (hB : BookAt W v M nb l n) (hS : SortedB l) (hs : name.size ≤ maxLen) (hn : n ≤ 100000) (hll : l.length ≤ 100000) (fp : World → Nat → Prop) (hfp : FpOk fp W) (J Jx : List Reg → World → Prop) (hJ : OwnFrom W.heap.size J) (hJx : OwnFrom W.heap.size Jx) (h0 : J [] W) (hY : YieldOk Yf Yc J Jx fp W.heap.size (fieldsL l name).length) :
    CallsIn Fence.wide m Tryz.prog 67 #[.func Yf #[] Yc, .pointer (some ⟨rb, 0, none⟩), .pointer (some ⟨nbx, 0, none⟩)] W fun e W' => (∃ v, e = .returned v) ∧ (J (fieldsL l name) W' ∨ ∃ k, 0 < k ∧ Jx ((fieldsL l name).take k) W') := by
  obtain ⟨r0, rfl⟩ := hv
  have lt_of : ∀ {q j : Nat} {u : Value}, W.cell? ⟨q, j, none⟩ = some u → q < W.heap.size := fun {q j u} h => by
    rcases Nat.lt_or_ge q W.heap.size with h' | h'
    · exact h'
    · simp [World.cell?, Array.getElem?_eq_none h'] at h
  have l1 := lt_of c1
  have l2 := lt_of c2
  have l3 := lt_of hc
  obtain ⟨F, hF⟩ : ∃ F, fieldsL l name = F := ⟨_, rfl⟩
  rw [hF] at hY ⊢
  refine callsIn_of_wp_marks Tryz.func67 rfl trivial ?_ rfl
  simp only [Tryz.ntmps67, List.size_toArray, List.length_cons, List.length_nil, Nat.reduceAdd, Nat.reduceSub, Array.replicate_succ, Array.replicate_zero, List.push_toArray, List.append_toArray, List.nil_append, List.cons_append]
  gi_wp2
  gi_cut [10] from 19 (fun s10 wd => ∃ B0, s10 = .func (.func 95) #[] #[.pointer (some ⟨B0 + 1 + 1, 0, none⟩)] ∧ wd.cell? ⟨B0, 0, none⟩ = some (.pointer (some ⟨p, 1, none⟩)) ∧ wd.cell? ⟨B0 + 1, 0, none⟩ = some (.string name) ∧ wd.cell? ⟨B0 + 1 + 1, 0, none⟩ = some (.func (.func 94) #[] #[.pointer (some ⟨B0, 0, none⟩), .pointer (some ⟨B0 + 1, 0, none⟩)]) ∧ wd.cell? ⟨W.heap.size, 0, none⟩ = some (.func Yf #[] Yc) ∧ Below W.heap.size W wd ∧ W.heap.size < wd.heap.size ∧ W.grownBy wd none)
  case first =>
    clear hY hJ hJx h0 hfp hB
    have d1 : (W.alloc (.cells #[.func Yf #[] Yc] 90)).drew.cell? ⟨rb, 0, none⟩ = some (.pointer (some ⟨p, 0, none⟩)) := by simp [World.cell?_alloc_lt _ _ ⟨rb, 0, none⟩ l1, c1]
    have d2 : (W.alloc (.cells #[.func Yf #[] Yc] 90)).drew.cell? ⟨nbx, 0, none⟩ = some (.string name) := by simp [World.cell?_alloc_lt _ _ ⟨nbx, 0, none⟩ l2, c2]
    refine wpIn_noexit ?_
    gi_region_with (first | (refine ⟨trivial, fun _ => by omega, ?_⟩; refine (callsIn_wide.2 (made_any p _)).mono ?_; rintro e w' ⟨rfl, rfl⟩) | (refine ⟨trivial, fun _ => by omega, ?_⟩; refine (callsIn_wide.2 (seenM_any (some ⟨p, 1, none⟩) name _)).mono ?_; rintro e w' ⟨rfl, rfl⟩))
    all_goals gi_wp2
    all_goals gi_meet
    all_goals
      have hb : Below W.heap.size W ((((W.alloc (.cells #[.func Yf #[] Yc] 90)).alloc (.cells #[.pointer (some ⟨p, 1, none⟩)] 147)).alloc (.cells #[.string name] 9)).alloc (.cells #[.func (.func 94) #[] #[.pointer (some ⟨W.heap.size + 1, 0, none⟩), .pointer (some ⟨W.heap.size + 1 + 1, 0, none⟩)]] 127)).drew := (((((Below.refl _ W).alloc (Nat.le_refl _) _).alloc (by simp) _).alloc (by simp; omega) _).alloc (by simp; omega) _).drew
      obtain ⟨b1, b2, b3, b4⟩ := box4 W (.func Yf #[] Yc) (.pointer (some ⟨p, 1, none⟩)) (.string name) (.func (.func 94) #[] #[.pointer (some ⟨W.heap.size + 1, 0, none⟩), .pointer (some ⟨W.heap.size + 1 + 1, 0, none⟩)]) 90 147 9 127
      exact ⟨W.heap.size + 1, rfl, b2, b3, b4, b1, hb, by simp; omega, below_grown hb⟩
  case rest =>
    obtain ⟨B0, rfl, e1, e2, e4, e3, hb, hlt, hgr⟩ := hcut
    have hfpd := hfp.below hb
    have hnf0 : ¬ fp wc W.heap.size := fun h => by
      have := hfp.old _ (Below.refl _ _) _ (hfp.kept _ _ none (Nat.le_refl _) hgr (fun r e => by cases e) _ h)
      omega
    have hcd : wc.cell? ⟨p, 1, none⟩ = some (.map r0) := (hb.cell (p := ⟨p, 1, none⟩) l3).trans hc
    have hsrc := seen_src B0 (B0 + 1) p 1 n M (.map r0) nb l name wc ⟨r0, rfl⟩ e1 e2 hcd (hB.below hb) hS hs
    have hFl : (fieldsL l name).length ≤ 100000 := Nat.le_trans (List.length_filter_le _ _) hll
    have hseq := sorted1_stops (m - 1) (by omega) (B0 + 1 + 1) _ n _ _ wc e4 hsrc (fieldsL_sorted hS name) hn hFl fp hfpd
    clear hsrc hFl e4
    clear hB hc c1 c2 hcd e1 e2
    rw [hF] at hseq
    clear hF
    have hJ0 : J [] wc := hJ _ _ _ none h0 hgr (fun r e => by cases e)
    have hle := hb.size
    gi_wp2
    refine wpIn_rangeFunc_ownH rfl (by omega) (gf := 95) (lb := #[.pointer (some ⟨B0 + 1 + 1, 0, none⟩)]) rfl trivial (enters_of Tryz.func95 (by kernel_rfl) rfl)
      hseq (fun h k => KeepL.trans h k) (fun X lq o o' hl h hc _ => keepL_b hfpd X lq o o' (by have := (Array.getElem?_eq_some_iff.1 h).1; omega) h hc) (Below.refl _ _) (fun _ => rfl)
      (fun pre X => J pre X ∧ X.cell? ⟨W.heap.size, 0, none⟩ = some (.func Yf #[] Yc) ∧ ¬ fp X W.heap.size ∧ wc.heap.size ≤ X.heap.size)
      (fun c pre X => c = .ret ∧ Jx pre X)
      (fun s A B row hs hg hr => ⟨ownFrom_up hJ hle s A B row hs.1 hg hr, cell_kept hs.2.1 hg (fun r e => (hr r e).2), fun h => hs.2.2.1 (hfp.kept _ _ row (by omega) hg (fun r e => (hr r e).2) _ h), Nat.le_trans hs.2.2.2 hg.size⟩)
      (fun c s A B row hs hg hr => ⟨hs.1, ownFrom_up hJx hle s A B row hs.2 hg hr⟩)
      ⟨hJ0, e3, hnf0, Nat.le_refl _⟩
      (fun x a' X => ∃ Bx, wc.heap.size ≤ Bx ∧ five X Bx x ∧ a' = { tmps := #[.func Yf #[] Yc, .pointer (some ⟨rb, 0, none⟩), .pointer (some ⟨nbx, 0, none⟩), .pointer (some ⟨W.heap.size, 0, none⟩), .pointer (some ⟨Bx, 0, none⟩), u5, u6, u7, u8, u9, .func (.func 95) #[] #[.pointer (some ⟨B0 + 1 + 1, 0, none⟩)], .agg #[.string x.n, .string x.f, .int .i64 x.c, .int .i64 x.r, .string x.v], undef, undef, undef, undef, undef, undef, undef], defers := [] })
      (fun x a' => Own.from (fun s A B row hs hg hr => by obtain ⟨Bx, h1, h2, h3⟩ := hs; exact ⟨Bx, h1, five_own h2 hg hr, h3⟩) _)
      ?assign ?body ?done ?stop
    case assign =>
      rintro lq pre x X K ⟨h1, h2, h3, h4⟩ hK
      gi_wp2
      have hg := World.grownBy_alloc X (.cells #[.string x.n, .string x.f, .int .i64 x.c, .int .i64 x.r, .string x.v] 99) none
      refine hK _ _ ((KeepsOthers.alloc _ _).from _) (keepL_alloc hfpd _ _ h4) ⟨hJ _ _ _ none h1 hg (fun r e => by cases e), cell_kept h2 hg (fun r e => by cases e), fun h => h3 (hfp.kept _ _ none (by omega) hg (fun r e => by cases e) _ h), by simp; omega⟩ ?_
      exact ⟨X.heap.size, h4, ⟨by simp, by simp, by simp, by simp, by simp⟩, rfl⟩
    case body =>
      rintro lq pre x a' X hlq ⟨r, hr⟩ ⟨h1, h2, h3, h4⟩ ⟨Bx, hBx, hf, rfl⟩ hlen
      obtain ⟨z0, z1, z2, z3, z4⟩ := hf
      rcases hY with ⟨lp, rfl, rfl, hY⟩ | ⟨q0, q1, q2, q3, rfl, rfl, hY⟩
      · obtain ⟨fn, tmps, assign, body, hy, hR⟩ := hY (m - 1 - 1 - 1) pre x X h1 hlen
        clear hY hseq hJ hJx h0 hJ0 hfp hfpd hb hgr
        have hR' : RoundIn (Fence.wide.inRound lq) (m - 1 - 1 - 1) Tryz.prog lp fn tmps assign body X (RoundOk J Jx fp W.heap.size pre x X) := hR
        clear hR
        gi_wp2
        refine ⟨fun _ => by omega, ?_⟩
        refine hR'.mono ?_
        rintro e X5 (⟨rfl, hJ5, hk5, hf5⟩ | ⟨rfl, hx5, hf5⟩)
        · have d2 := hk5.cell (Nat.le_refl _) h3 h2
          have d3 : ¬ fp X5 W.heap.size := fun h => by
            rcases hk5.2.2 _ h with h' | h'
            · exact h3 h'
            · omega
          have d4 := hk5.1
          gi_wp2
          exact ⟨keepsFrom_from hf5 hle, keepL_from hk5 hle, hJ5, d2, d3, by omega⟩
        · gi_wp2
          exact ⟨keepsFrom_from hf5 hle, rfl, hx5⟩
      · have hR := hY pre x X h1 hlen
        clear hY hseq hJ hJx h0 hJ0 hb hgr
        gi_wp2
        refine ⟨trivial, fun _ => by omega, ?_⟩
        refine (CallsIn.inRound lq (callsIn_wide.2 hR)).mono ?_
        rintro e X5 (⟨rfl, hJ5, hk5, hf5⟩ | ⟨rfl, hx5, hf5⟩)
        · have d2 := hk5.cell (Nat.le_refl _) h3 h2
          have d3 : ¬ fp X5 W.heap.size := fun h => by
            rcases hk5.2.2 _ h with h' | h'
            · exact h3 h'
            · omega
          have d4 := hk5.1
          gi_wp2
          exact ⟨keepsFrom_from hf5 hle, keepL_from hk5 hle, hJ5, d2, d3, by omega⟩
        · gi_wp2
          exact ⟨keepsFrom_from hf5 hle, rfl, hx5⟩
    case done =>
      rintro D ys X hD rfl ⟨h1, h2, h3, h4⟩ hK
      gi_wp2
      refine ⟨by simp, .inl ⟨_, _, rfl, run_takeDeferred hK, ?_⟩⟩
      have := hJ.putObj (.deferred none) h1 (by omega) hK rfl
      refine ⟨.tuple #[], ?_, ⟨_, rfl⟩, .inl this⟩
      simp [results, Tryz.f67, go_sem]
    case stop =>
      rintro D c pre X hD ⟨k, hk0, rfl⟩ ⟨rfl, h1⟩ hK
      gi_wp2
      refine ⟨by simp, .inl ⟨_, _, rfl, run_takeDeferred hK, ?_⟩⟩
      have := hJx.putObj (.deferred none) h1 (by omega) hK rfl
      refine ⟨.tuple #[], ?_, ⟨_, rfl⟩, .inr ⟨k, hk0, this⟩⟩
      simp [results, Tryz.f67, go_sem]
end Go.Proofs.YtjhlijobdihplaaGreatDoor
