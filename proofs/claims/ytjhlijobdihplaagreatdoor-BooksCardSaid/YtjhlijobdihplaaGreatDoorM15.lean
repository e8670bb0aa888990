import Derived.Test.YtjhlijobdihplaaGreatDoorT2
import Derived.Test.YtjhlijobdihplaaGreatDoorT3
import Derived.Test.YtjhlijobdihplaaGreatDoorM14
import Derived.Test.YtjhlijobdihplaaGreatDoorCards
import Derived.Test.YtjhlijobdihplaaGreatDoorTie
import Derived.ProofKit
import Derived.OpenShut
import Derived.SizedLaws
import Derived.Carry
import Derived.LaidLaws
import Derived.LaidHandle
import Derived.Deep.DeepHandedRow
import Derived.Deep.Slices
namespace Go.Proofs.YtjhlijobdihplaaGreatDoor
open Go.RowKit Go.Maps Go.Shelf

/-- plain's world and the law's, k steps on -/
structure WSt (base : Nat) (w : World) (lw pw k : Nat) : Prop where
  ex : ∃ N rs os n, N ≤ k ∧ n ≤ k ∧ PSt base w pw N rs n ∧ LSt base w lw pw N os (fun j => (rs j).id) (fun j => (rs j).l)

theorem WSt.below {base : Nat} {w w' : World} {lw pw k : Nat} (h : WSt base w lw pw k) (hb : Below w.heap.size w w') : WSt base w' lw pw k := by
  obtain ⟨N, rs, os, n, h1, h2, h3, h4⟩ := h.ex
  exact ⟨N, rs, os, n, h1, h2, h3.below (Nat.le_refl _) hb, h4.below hb⟩
theorem WSt.mono {base : Nat} {w : World} {lw pw k k' : Nat} (h : WSt base w lw pw k) (hk : k ≤ k') : WSt base w lw pw k' := by
  obtain ⟨N, rs, os, n, h1, h2, h3, h4⟩ := h.ex
  exact ⟨N, rs, os, n, by omega, by omega, h3, h4⟩
theorem WSt.hb {base : Nat} {w : World} {lw pw k : Nat} (h : WSt base w lw pw k) : base ≤ w.heap.size := by
  obtain ⟨N, rs, os, n, h1, h2, h3, h4⟩ := h.ex
  exact h3.hb

theorem step_any (base lw pw k : Nat) (o : OpS) (w : World) (hE : ErrT w) (h : WSt base w lw pw k) (hk : k ≤ 4096) (ho : o.kind = 1 ∨ o.kind = 2 ∨ o.kind = 3 ∨ o.kind = 4 ∨ o.kind = 5) (hs : o.s.size ≤ 5000) (ht : o.t.size ≤ 5000) (hu : o.u.size ≤ 5000) (ha : -9223372036854775808 ≤ o.a) (ha2 : o.a < 9223372036854775808) :
    Calls Tryz.prog 8 #[.pointer (some ⟨lw, 0, none⟩), o.value] w
      fun e w' => e = .returned (.bool true) ∧ WSt base w' lw pw (k + 1) ∧ Below base w w' := by
  obtain ⟨N, rs, os, n, h1, h2, h3, h4⟩ := h.ex
  by_cases hk1 : o.kind = 1
  · refine (step_new base lw pw N n rs os o w h3 h4 (by omega) hk1 ⟨ha, ha2⟩).mono ?_
    rintro e w' ⟨rfl, rs', os', q1, q2, q3⟩
    exact ⟨rfl, ⟨N + 1, rs', os', n, by omega, by omega, q1, q2⟩, q3⟩
  · by_cases h0 : 0 < N
    · obtain ⟨i, hpi, hi⟩ : ∃ i : Nat, pickI o.a N = (i : Int) ∧ i < N := by
        have hp := pickI_lt o.a N (by omega)
        exact ⟨(pickI o.a N).toNat, by omega, by omega⟩
      rcases ho with ho | ho | ho | ho
      · exact absurd ho hk1
      · refine (step_put base lw pw N n i rs os o w hE h3 h4 h0 (by omega) (by omega) ho hs ht hu ha ha2 hpi hi).mono ?_
        rintro e w' ⟨rfl, rs', q1, q2, q3⟩
        exact ⟨rfl, ⟨N, rs', os, n + 1, by omega, by omega, q1, q2⟩, q3⟩
      · refine (step_del base lw pw N n i rs os o w hE h3 h4 h0 (by omega) (by omega) ho hs ha ha2 hpi hi).mono ?_
        rintro e w' ⟨rfl, rs', q1, q2, q3⟩
        exact ⟨rfl, ⟨N, rs', os, n + 1, by omega, by omega, q1, q2⟩, q3⟩
      · refine (step_asks base lw pw N n i rs os o w h3 h4 h0 (by omega) (by omega) ho hs ha ha2 hpi hi).mono ?_
        rintro e w' ⟨rfl, q3⟩
        exact ⟨rfl, (h.below q3).mono (Nat.le_succ _), q3.mono h3.hb⟩
    · obtain ⟨la, lc, a, b⟩ := h4.law
      have e0 : N = 0 := by omega
      subst e0
      refine (step_none lw pw lc la o w (by simp [World.cell?, a]) hk1).mono ?_
      rintro e w' ⟨rfl, q3⟩
      exact ⟨rfl, (h.below q3).mono (Nat.le_succ _), q3.mono h3.hb⟩
end Go.Proofs.YtjhlijobdihplaaGreatDoor
namespace Go.Proofs.YtjhlijobdihplaaGreatDoor
open Go.RowKit Go.Maps Go.Shelf

theorem wst_new (W : World) : WSt W.heap.size ((W.alloc (.cells #[.slice none 0 0] 30)).alloc (.cells #[.pointer (some ⟨W.heap.size, 0, none⟩), .slice none 0 0] 33)) (W.heap.size + 1) W.heap.size 0 := by
  have h1 : (W.alloc (.cells #[.slice none 0 0] 30)).heap.size = W.heap.size + 1 := by simp
  have h2 : ((W.alloc (.cells #[.slice none 0 0] 30)).alloc (.cells #[.pointer (some ⟨W.heap.size, 0, none⟩), .slice none 0 0] 33)).heap[W.heap.size]? = some (.cells #[.slice none 0 0] 30 (0, 0)) := by
    rw [Below.heap_alloc _ _ _ (by omega)]; exact World.alloc_heap_new W _
  have h3 := World.alloc_heap_new (W.alloc (.cells #[.slice none 0 0] 30)) (.cells #[.pointer (some ⟨W.heap.size, 0, none⟩), .slice none 0 0] 33)
  rw [h1] at h3
  exact ⟨0, fun _ => newRD 0 0, fun _ => 0, 0, Nat.le_refl _, Nat.le_refl _,
    ⟨Nat.le_refl _, by simp; omega, ⟨none, 0, h2, World.ownsRow_nil _ _ _ _⟩, fun i hi => absurd hi (by omega), fun i hi => absurd hi (by omega), fun i j hi => absurd hi (by omega)⟩,
    ⟨by omega, by simp; omega, ⟨none, 0, h3, World.ownsRow_nil _ _ _ _⟩, fun i hi => absurd hi (by omega), fun i j hi => absurd hi (by omega)⟩⟩

set_option maxRecDepth 100000 in
theorem plays_any (l : List OpS) (ad : Option Addr) (cap kb : Nat) (w : World) (hl : l.length ≤ maxLen) (hS : l ≠ [] → ∃ g off, ad = some ⟨g, off, none⟩ ∧ Sc w g off l) (hE : ErrT w)
    (hb : ∀ i, i < l.length → (opAt l i).s.size ≤ 140737488355328 ∧ (opAt l i).t.size ≤ 140737488355328 ∧ (opAt l i).u.size ≤ 140737488355328)
    (ha : ∀ i, i < l.length → -9223372036854775808 ≤ (opAt l i).a ∧ (opAt l i).a < 9223372036854775808)
    (k0 : w.cell? ⟨kb, 0, none⟩ = some (.int .i64 4)) (k1 : w.cell? ⟨kb, 1, none⟩ = some (.int .i64 5)) :
    Calls Tryz.prog 6 #[.slice ad l.length cap, .slice (some ⟨kb, 0, none⟩) 2 2, .bool false] w fun e w' => e = .returned (.bool true) ∧ Below w.heap.size w w' := by
  refine plays_gen (fun wr k => WSt w.heap.size wr (w.heap.size + 1) w.heap.size k) l ad (some ⟨kb, 0, none⟩) cap 2 [4, 5] false w hl hS hb (by decide) (fun _ => ⟨kb, rfl, fun j hj => ?_⟩) (fun nd => wst_new (w.drewN nd)) (fun wr k h => h.mono (Nat.le_succ _)) (fun wr w' k h hb => h.below hb) (fun k wr hk hsz h hbw hkd => ?_) (fun wr hsz h => ?_) (fun h => by cases h)
  · rcases (show j = 0 ∨ j = 1 by simp at hj; omega) with rfl | rfl
    · exact k0
    · exact k1
  · have hsu := scSum_succ l k hk
    have hsl := scSum_le l (k + 1)
    obtain ⟨a1, a2⟩ := ha k hk
    unfold opSize at hsu
    refine step_any w.heap.size (w.heap.size + 1) w.heap.size k (opAt l k) wr (errT_below hE hbw) h (by omega) ?_ (by omega) (by omega) (by omega) a1 a2
    rcases hkd with h | h | h | h | h
    · cases h
    · exact .inl h
    · exact .inr (.inl h)
    · exact .inr (.inr (.inl h))
    · simp only [List.mem_cons, List.not_mem_nil, or_false] at h
      exact .inr (.inr (.inr h))
  · obtain ⟨N, rs, os, n, hN, _, _, hL9⟩ := h.ex
    obtain ⟨la, lc, x1, _⟩ := hL9.law
    exact ⟨la, N, lc, by simp [World.cell?, x1], by omega⟩

theorem Sc.below {w w' : World} {g off : Nat} {l : List OpS} (h : Sc w g off l) (hb : Below w.heap.size w w') : Sc w' g off l := by
  intro i hi
  obtain ⟨c0, c1, c2, c3, c4, c5, c6⟩ := h i hi
  have lg := lt_of_cell c0
  exact ⟨below_keep hb lg c0, below_keep hb lg c1, below_keep hb lg c2, below_keep hb lg c3, below_keep hb lg c4, below_keep hb lg c5, below_keep hb lg c6⟩

theorem two_cells {W : World} {b : Nat} {x y : Value} {t : TypeId} {f : Nat × Nat} (h : W.heap[b]? = some (.cells #[x, y] t f)) : W.cell? ⟨b, 0, none⟩ = some x ∧ W.cell? ⟨b, 1, none⟩ = some y := by
  constructor <;> simp [World.cell?, h]

set_option maxRecDepth 100000 in
set_option maxHeartbeats 4000000 in
theorem edits_any (l : List OpS) (ad : Option Addr) (cap : Nat) (w : World) (hl : l.length ≤ maxLen) (hS : l ≠ [] → ∃ g off, ad = some ⟨g, off, none⟩ ∧ Sc w g off l) (hE : ErrT w)
    (hb : ∀ i, i < l.length → (opAt l i).s.size ≤ 140737488355328 ∧ (opAt l i).t.size ≤ 140737488355328 ∧ (opAt l i).u.size ≤ 140737488355328)
    (ha : ∀ i, i < l.length → -9223372036854775808 ≤ (opAt l i).a ∧ (opAt l i).a < 9223372036854775808) :
    Calls Tryz.prog 3 #[.slice ad l.length cap] w fun e w' => e = .returned (.bool true) ∧ Below w.heap.size w w' := by
  have HP : Hid (∀ W kb, Below w.heap.size w W → W.cell? ⟨kb, 0, none⟩ = some (.int .i64 4) → W.cell? ⟨kb, 1, none⟩ = some (.int .i64 5) →
      Calls Tryz.prog 6 #[.slice ad l.length cap, .slice (some ⟨kb, 0, none⟩) 2 2, .bool false] W fun e w' => e = .returned (.bool true) ∧ Below W.heap.size W w') := fun W kb hbW h0 h1 =>
    plays_any l ad cap kb W hl (fun hn => by obtain ⟨g, off, e, h⟩ := hS hn; exact ⟨g, off, e, h.below hbW⟩) (errT_below hE hbW) hb ha h0 h1
  clear hS hE hb ha hl
  go_enter Tryz.func3, Tryz.ntmps3
  go_wp2_with fail
  have hn := World.alloc_heap_new w (.cells #[.int .i64 4, .int .i64 5] 3)
  refine (HP.out (w.alloc (.cells #[.int .i64 4, .int .i64 5] 3)) w.heap.size ((Below.refl _ _).alloc (Nat.le_refl _) _) (two_cells hn).1 (two_cells hn).2).mono ?_
  clear HP hn
  rintro e w5 ⟨rfl, hb5⟩
  go_wp2
  go_ret
  exact ⟨rfl, ((Below.refl _ _).alloc (Nat.le_refl _) _).trans (hb5.mono (by simp))⟩
end Go.Proofs.YtjhlijobdihplaaGreatDoor
namespace Go.Proofs.YtjhlijobdihplaaGreatDoor
open Go.ChangeShapes Go.WideShapes Go.ChangeAt Go.RowKit Go.Deep

theorem Tryz.cellsOp : Tryz.prog.cellsOf 35 = 7 := by kernel_rfl
theorem Tryz.cellsI : Tryz.prog.cellsOf 3 = 1 := by kernel_rfl
theorem Tryz.cellsS : Tryz.prog.cellsOf 9 = 1 := by kernel_rfl

section
variable {H : Type} {enc : TypeId × Value → H} {w : World} {base : Nat} {spare : Nat → Bool} {held : Bool}

set_option maxRecDepth 100000 in
theorem op_open {n : Nat} {cs : List Value} {d : DataW H} {pl : List MemPlace} (h : DataW.trod enc Tryz.prog w base spare held n 35 cs = some (d, pl)) :
    ∃ o : OpS, cs = [.int .i64 o.kind, .int .i64 o.a, .int .i64 o.b, .int .i64 o.c, .string o.s, .string o.t, .string o.u] ∧
      d = .agg [.lit (.int .i64 o.kind), .lit (.int .i64 o.a), .lit (.int .i64 o.b), .lit (.int .i64 o.c), .lit (.string o.s.data.toList), .lit (.string o.t.data.toList), .lit (.string o.u.data.toList)] ∧ (Lit.int .i64 o.a).wf = true := by
  obtain ⟨xs, k, hk, hxy, hlen, hxl, hf⟩ := DataW.trod_struct Tryz.underlying35 h
  rw [Tryz.cellsOp] at hlen
  match xs, hxl, cs, hlen with
  | [y0, y1, y2, y3, y4, y5, y6], _, [v0, v1, v2, v3, v4, v5, v6], _ =>
    have f0 : DataW.trod enc Tryz.prog w base spare held k 3 (List.take (Tryz.prog.cellsOf 3) [v0, v1, v2, v3, v4, v5, v6]) = some y0 := hf 0 _ rfl
    rw [Tryz.cellsI] at f0
    have f1 : DataW.trod enc Tryz.prog w base spare held k 3 (List.take (Tryz.prog.cellsOf 3) [v1, v2, v3, v4, v5, v6]) = some y1 := hf 1 _ rfl
    rw [Tryz.cellsI] at f1
    have f2 : DataW.trod enc Tryz.prog w base spare held k 3 (List.take (Tryz.prog.cellsOf 3) [v2, v3, v4, v5, v6]) = some y2 := hf 2 _ rfl
    rw [Tryz.cellsI] at f2
    have f3 : DataW.trod enc Tryz.prog w base spare held k 3 (List.take (Tryz.prog.cellsOf 3) [v3, v4, v5, v6]) = some y3 := hf 3 _ rfl
    rw [Tryz.cellsI] at f3
    have f4 : DataW.trod enc Tryz.prog w base spare held k 9 (List.take (Tryz.prog.cellsOf 9) [v4, v5, v6]) = some y4 := hf 4 _ rfl
    rw [Tryz.cellsS] at f4
    have f5 : DataW.trod enc Tryz.prog w base spare held k 9 (List.take (Tryz.prog.cellsOf 9) [v5, v6]) = some y5 := hf 5 _ rfl
    rw [Tryz.cellsS] at f5
    have f6 : DataW.trod enc Tryz.prog w base spare held k 9 (List.take (Tryz.prog.cellsOf 9) [v6]) = some y6 := hf 6 _ rfl
    rw [Tryz.cellsS] at f6
    obtain ⟨n0, e0, x0, _⟩ := DataW.trod_int Tryz.underlying3 f0
    obtain ⟨n1, e1, x1, w1⟩ := DataW.trod_int Tryz.underlying3 f1
    obtain ⟨n2, e2, x2, _⟩ := DataW.trod_int Tryz.underlying3 f2
    obtain ⟨n3, e3, x3, _⟩ := DataW.trod_int Tryz.underlying3 f3
    obtain ⟨s4, e4, x4, _⟩ := DataW.trod_string Tryz.underlying9 f4
    obtain ⟨s5, e5, x5, _⟩ := DataW.trod_string Tryz.underlying9 f5
    obtain ⟨s6, e6, x6, _⟩ := DataW.trod_string Tryz.underlying9 f6
    cases e0; cases e1; cases e2; cases e3; cases e4; cases e5; cases e6
    subst x0 x1 x2 x3 x4 x5 x6
    cases hxy
    exact ⟨⟨n0, n1, n2, n3, s4, s5, s6⟩, rfl, rfl, w1⟩

theorem weightsAll_mem {P : Program} {e : TypeId} : ∀ {ds : List (DataW H)} {d : DataW H}, d ∈ ds → ∀ n ∈ d.weights P e, n ∈ DataW.weightsAll P e ds
  | x :: r, d, hd, n, hn => by
    simp only [DataW.weightsAll, List.mem_append]
    rcases List.mem_cons.1 hd with rfl | h
    · exact .inl hn
    · exact .inr (weightsAll_mem h n hn)

theorem op_weights (o : OpS) : ∀ n ∈ [o.s.data.toList.length, o.t.data.toList.length, o.u.data.toList.length], n ∈ (DataW.agg [.lit (.int .i64 o.kind), .lit (.int .i64 o.a), .lit (.int .i64 o.b), .lit (.int .i64 o.c), .lit (.string o.s.data.toList), .lit (.string o.t.data.toList), .lit (.string o.u.data.toList)] : DataW H).weights Tryz.prog 35 := by
  intro n hn
  unfold DataW.weights
  rw [Tryz.underlying35]
  simpa [DataW.weightsEach, DataW.weights] using hn

set_option maxRecDepth 100000 in
theorem script_open {W : World} {v : Value} {d : DataW H} {p : List MemPlace} {b0 : Nat} (hval : Value.okWide Tryz.prog W .any b0 22 v) (h : DataW.Trod enc Tryz.prog W base spare held 22 v d p)
    (hz : ∀ n ∈ d.weights Tryz.prog 22, n ≤ reachBytes) :
    ∃ (l : List OpS) (ad : Option Addr) (cap : Nat), v = .slice ad l.length cap ∧ l.length ≤ maxLen ∧ (l ≠ [] → ∃ g off, ad = some ⟨g, off, none⟩ ∧ Sc W g off l) ∧
      (∀ i, i < l.length → (opAt l i).s.size ≤ 140737488355328 ∧ (opAt l i).t.size ≤ 140737488355328 ∧ (opAt l i).u.size ≤ 140737488355328) ∧
      (∀ i, i < l.length → -9223372036854775808 ≤ (opAt l i).a ∧ (opAt l i).a < 9223372036854775808) := by
  obtain ⟨a0, len, cap, rfl⟩ := okWide_slice Tryz.underlying22 hval
  obtain ⟨fuel, hf⟩ := h
  rcases open_slice Tryz.underlying22 hf with ⟨hcs, hx⟩ | ⟨a, len', cap', m, n, D, Pl, hcs, hb, hl, hm, hmm, hx, hcell⟩
  · have e : Value.slice a0 len cap = .slice none 0 0 := by simpa [Value.cells] using hcs
    cases e
    exact ⟨[], none, 0, rfl, Nat.zero_le _, fun h => absurd rfl h, fun i hi => absurd hi (by simp), fun i hi => absurd hi (by simp)⟩
  · have e : Value.slice a0 len cap = .slice (some a) len' cap' := by simpa [Value.cells] using hcs
    cases e
    have hlm : len ≤ m := by rw [hmm]; split <;> omega
    have each : ∀ i, ∃ o : OpS, i < len → W.cells? base (a.add (i * 7)) 7 = some [.int .i64 o.kind, .int .i64 o.a, .int .i64 o.b, .int .i64 o.c, .string o.s, .string o.t, .string o.u] ∧
        D i = .agg [.lit (.int .i64 o.kind), .lit (.int .i64 o.a), .lit (.int .i64 o.b), .lit (.int .i64 o.c), .lit (.string o.s.data.toList), .lit (.string o.t.data.toList), .lit (.string o.u.data.toList)] ∧ (Lit.int .i64 o.a).wf = true := by
      intro i
      by_cases hi : i < len
      · obtain ⟨cs', h1, h2⟩ := hcell i (by omega)
        rw [Tryz.cellsOp] at h1
        obtain ⟨o, rfl, e2, e3⟩ := op_open h2
        exact ⟨o, fun _ => ⟨h1, e2, e3⟩⟩
      · exact ⟨⟨0, 0, 0, 0, ByteArray.empty, ByteArray.empty, ByteArray.empty⟩, fun h => absurd h hi⟩
    obtain ⟨f, hfo⟩ := Classical.axiomOfChoice each
    have hat : ∀ i, i < len → opAt ((List.range len).map f) i = f i := fun i hi => by simp [opAt, List.getD, hi]
    refine ⟨(List.range len).map f, some a, cap, by simp, by simp; omega, fun hne => ?_, fun i hi => ?_, fun i hi => ?_⟩
    · have h0 : 0 < len := by
        rcases Nat.eq_zero_or_pos len with e | e
        · subst e; exact absurd rfl hne
        · exact e
      obtain ⟨b, off, spot⟩ := a
      have hspot : spot = none := by
        obtain ⟨_, _, hc⟩ := World.cells?_some (hfo 0 h0).1
        have := hc 0 (by omega)
        simpa [Addr.add] using World.cell?_spot (this.trans rfl)
      subst hspot
      refine ⟨b, off, rfl, fun i hi => ?_⟩
      have hi' : i < len := by simpa using hi
      obtain ⟨_, _, hc⟩ := World.cells?_some (hfo i hi').1
      rw [hat i hi']
      have ad : ∀ j, (Addr.add ⟨b, off, none⟩ (i * 7)).add j = ⟨b, off + i * 7 + j, none⟩ := fun j => by rw [Go.WideShapes.add_plain, Go.WideShapes.add_plain]
      have c : ∀ j, j < 7 → W.cell? ⟨b, off + i * 7 + j, none⟩ = [Value.int .i64 (f i).kind, .int .i64 (f i).a, .int .i64 (f i).b, .int .i64 (f i).c, .string (f i).s, .string (f i).t, .string (f i).u][j]? := fun j hj => (congrArg W.cell? (ad j).symm).trans (hc j hj)
      exact ⟨c 0 (by omega), c 1 (by omega), c 2 (by omega), c 3 (by omega), c 4 (by omega), c 5 (by omega), c 6 (by omega)⟩
    · have hi' : i < len := by simpa using hi
      rw [hat i hi']
      have hd : d = .slice ((List.range len).map D) ((List.range (m - len)).map fun j => D (len + j)) := by cases hx; rfl
      have hw : ∀ n ∈ [(f i).s.data.toList.length, (f i).t.data.toList.length, (f i).u.data.toList.length], n ≤ reachBytes := fun n hn => by
        refine hz n ?_
        rw [hd]
        unfold DataW.weights
        rw [Tryz.underlying22]
        refine List.mem_cons_of_mem _ (List.mem_append_left _ (weightsAll_mem (d := D i) (List.mem_map.2 ⟨i, by simpa using hi', rfl⟩) n ?_))
        rw [(hfo i hi').2.1]
        exact op_weights (f i) n hn
      have s1 := hw _ (by simp : (f i).s.data.toList.length ∈ _)
      have s2 := hw (f i).t.data.toList.length (by simp)
      have s3 := hw (f i).u.data.toList.length (by simp)
      have hr : reachBytes ≤ 140737488355328 := by decide
      refine ⟨?_, ?_, ?_⟩
      · have : (f i).s.size = (f i).s.data.toList.length := (Array.length_toList (xs := (f i).s.data)).symm
        omega
      · have : (f i).t.size = (f i).t.data.toList.length := (Array.length_toList (xs := (f i).t.data)).symm
        omega
      · have : (f i).u.size = (f i).u.data.toList.length := (Array.length_toList (xs := (f i).u.data)).symm
        omega
    · have hi' : i < len := by simpa using hi
      rw [hat i hi']
      have := bounds_i64 (hfo i hi').2.2
      omega
end
end Go.Proofs.YtjhlijobdihplaaGreatDoor
