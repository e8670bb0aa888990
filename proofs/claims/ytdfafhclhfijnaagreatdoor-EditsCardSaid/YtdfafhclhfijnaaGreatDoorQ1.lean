import Derived.Test.YtdfafhclhfijnaaGreatDoorP1
import Derived.Test.YtdfafhclhfijnaaGreatDoorE3
namespace Go.Proofs.YtdfafhclhfijnaaGreatDoor
open Go.RowKit Go.Maps Go.Shelf

/-- a replica: its block, its number, its book, the maps behind it -/
structure RD where
  p : Nat
  id : Int
  l : List Reg
  v : Value
  M : Nat
  nb : ByteArray → Nat

def RD.foot (r : RD) (k : Nat) : Prop := r.v = .map (some r.M) ∧ footB r.M r.nb r.l k

/-- the replica lies in w -/
structure Rep (w : World) (r : RD) (n : Nat) : Prop where
  kind : ∃ cs, w.heap[r.p]? = some (.cells cs 108 (0, 0))
  cid : w.cell? ⟨r.p, 0, none⟩ = some (.int .i64 r.id)
  cv : w.cell? ⟨r.p, 1, none⟩ = some r.v
  book : BookAt w r.v r.M r.nb r.l n
  sorted : SortedB r.l
  isMap : ∃ q, r.v = .map q
  len : r.l.length ≤ n
  clock : clockL r.l ≤ n
  names : ∀ y ∈ r.l, y.n.size ≤ 100

theorem Rep.lt {w : World} {r : RD} {n : Nat} (h : Rep w r n) : r.p < w.heap.size := lt_of_cell h.cv
theorem foot_lt {w : World} {r : RD} {n : Nat} (h : Rep w r n) {k : Nat} (hk : r.foot k) : k < w.heap.size := by
  rcases h.book with ⟨h1, _⟩ | ⟨_, h1⟩
  · rw [hk.1] at h1; cases h1
  · exact h1.lt k hk.2
/-- what a replica's maps lie in are no cells -/
theorem foot_no_cells {w : World} {r : RD} {n : Nat} (h : Rep w r n) {k : Nat} (hk : r.foot k) : ∀ cs t f, w.heap[k]? ≠ some (.cells cs t f) := by
  intro cs t f hc
  rcases h.book with ⟨h1, _⟩ | ⟨_, h1⟩
  · rw [hk.1] at h1; cases h1
  · rcases hk.2 with rfl | ⟨s, hs, rfl⟩
    · obtain ⟨D, ⟨es, clock, h3, _⟩, _⟩ := h1.1
      rw [h3] at hc; cases hc
    · obtain ⟨D, ⟨es, clock, h3, _⟩, _⟩ := (h1.2.1 s hs).1
      rw [h3] at hc; cases hc
theorem Rep.pfoot {w : World} {r : RD} {n : Nat} (h : Rep w r n) : ¬ r.foot r.p := fun hk => by
  obtain ⟨cs, hcs⟩ := h.kind
  exact foot_no_cells h hk cs _ _ hcs
theorem Rep.frozen {w : World} {r : RD} {n : Nat} (h : Rep w r n) (j : Nat) : w.frozen? ⟨r.p, j, none⟩ = false := by
  obtain ⟨cs, hcs⟩ := h.kind
  simp [World.frozen?, hcs]

theorem bookAt_mono {w : World} {v : Value} {M : Nat} {nb : ByteArray → Nat} {l : List Reg} {n n' : Nat} (h : BookAt w v M nb l n) (hn : n ≤ n') : BookAt w v M nb l n' := by
  rcases h with h | ⟨h, h1, h2, h3⟩
  · exact .inl h
  · exact .inr ⟨h, h1.mono hn, fun s hs => ⟨(h2 s hs).1.mono hn, (h2 s hs).2⟩, h3⟩

theorem Rep.keep {w w' : World} {r : RD} {n n' : Nat} (h : Rep w r n) (hn : n ≤ n') (hp : w'.heap[r.p]? = w.heap[r.p]?) (hf : ∀ k, r.foot k → w'.heap[k]? = w.heap[k]?) : Rep w' r n' where
  kind := by obtain ⟨cs, hcs⟩ := h.kind; exact ⟨cs, hp.trans hcs⟩
  cid := (World.cell?_of_block (w := w) (a := ⟨r.p, 0, none⟩) hp).trans h.cid
  cv := (World.cell?_of_block (w := w) (a := ⟨r.p, 1, none⟩) hp).trans h.cv
  book := bookAt_mono (h.book.block (fun hne k hk => hf k ⟨by
    rcases h.book with ⟨h1, _⟩ | ⟨h1, _⟩
    · exact absurd h1 hne
    · exact h1, hk⟩)) hn
  sorted := h.sorted
  isMap := h.isMap
  len := Nat.le_trans h.len hn
  clock := by have := h.clock; omega
  names := h.names

theorem Rep.below {w w' : World} {r : RD} {n n' : Nat} (h : Rep w r n) (hn : n ≤ n') (hb : Below w.heap.size w w') : Rep w' r n' :=
  h.keep hn (hb.block _ h.lt) (fun _ hk => hb.block _ (foot_lt h hk))

/-- what a call that writes into r changes -/
structure Eff (w w' : World) (r r' : RD) : Prop where
  os : w'.os = w.os
  tape : w'.tape = w.tape
  output : w'.output = w.output
  size : w.heap.size ≤ w'.heap.size
  block : ∀ k, k < w.heap.size → k ≠ r.p → ¬ r.foot k → w'.heap[k]? = w.heap[k]?
  foot : ∀ k, r'.foot k → r.foot k ∨ w.heap.size ≤ k
  hp : r'.p = r.p

theorem Eff.of_below {w w' : World} {r : RD} (hb : Below w.heap.size w w') : Eff w w' r r :=
  ⟨hb.os, hb.tape, hb.output, hb.size, fun k hk _ _ => hb.block k hk, fun _ h => .inl h, rfl⟩
theorem Eff.then_below {w w1 w2 : World} {r r' : RD} (h : Eff w w1 r r') (hb : Below w1.heap.size w1 w2) : Eff w w2 r r' :=
  ⟨hb.os.trans h.os, hb.tape.trans h.tape, hb.output.trans h.output, Nat.le_trans h.size hb.size, fun k hk h1 h2 => (hb.block k (Nat.lt_of_lt_of_le hk h.size)).trans (h.block k hk h1 h2), h.foot, h.hp⟩
theorem Eff.after_below {w w1 w2 : World} {r r' : RD} (hb : Below w.heap.size w w1) (h : Eff w1 w2 r r') : Eff w w2 r r' :=
  ⟨h.os.trans hb.os, h.tape.trans hb.tape, h.output.trans hb.output, Nat.le_trans hb.size h.size, fun k hk h1 h2 => (h.block k (Nat.lt_of_lt_of_le hk hb.size) h1 h2).trans (hb.block k hk),
   fun k hk => (h.foot k hk).elim .inl (fun e => .inr (Nat.le_trans hb.size e)), h.hp⟩

theorem clock_with {l : List Reg} (hs : SortedB l) {x : Reg} {n : Int} (hx : x.c ≤ n) (h : clockL l ≤ n) (h0 : 0 ≤ n) : clockL (withL l x) ≤ n := by
  refine clockL_le h0 fun y hy => ?_
  rw [withL_eq l x hs] at hy
  rcases withR_mem hy with rfl | hy
  · exact hx
  · exact Int.le_trans (le_clockL hy) h

theorem hasN_with {l : List Reg} (hs : SortedB l) (x : Reg) {s : ByteArray} (h : hasN (withL l x) s = true) : s = x.n ∨ hasN l s = true := by
  obtain ⟨y, hy, e⟩ := hasN_iff.1 h
  rw [withL_eq l x hs] at hy
  rcases withR_mem hy with rfl | hy
  · exact .inl e.symm
  · exact .inr (hasN_iff.2 ⟨y, hy, e⟩)

theorem wins_new {x y : Reg} (h : y.c < x.c) : winsB x y = true := by
  unfold winsB
  rw [if_neg (by omega)]
  simp [h]

/-- Take, of a register that is newer than all -/
theorem take_rep (r : RD) (n : Nat) (x : Reg) (w : World) (hr : Rep w r n) (hn : n < 100000) (hx : ∀ y ∈ r.l, y.c < x.c) (hxn : x.c ≤ n + 1) (h1 : x.n.size ≤ 100) (h2 : x.f.size ≤ maxLen) :
    Calls Tryz.prog 57 #[.pointer (some ⟨r.p, 1, none⟩), .agg #[.string x.n, .string x.f, .int .i64 x.c, .int .i64 x.r, .string x.v]] w
      fun e w' => e = .returned (.tuple #[]) ∧ ∃ r', r'.id = r.id ∧ r'.l = withL r.l x ∧ Rep w' r' (n + 1) ∧ Eff w w' r r' := by
  have h1' : x.n.size ≤ maxLen := Nat.le_trans h1 (by unfold maxLen; decide)
  have hsort : SortedB (withL r.l x) := by rw [withL_eq r.l x hr.sorted]; exact withR_sorted x r.l hr.sorted
  have hlen : (withL r.l x).length ≤ n + 1 := by
    rw [withL_eq r.l x hr.sorted]
    have := withR_len x r.l
    have := hr.len
    omega
  have hclk : clockL (withL r.l x) ≤ (n + 1 : Nat) := clock_with hr.sorted (by omega) (by have := hr.clock; omega) (by omega)
  have hnam : ∀ y ∈ withL r.l x, y.n.size ≤ 100 := fun y hy => by
    rw [withL_eq r.l x hr.sorted] at hy
    rcases withR_mem hy with rfl | hy
    · exact h1
    · exact hr.names y hy
  have hpl := hr.lt
  obtain ⟨cs, hcs⟩ := hr.kind
  rcases hr.book with ⟨hv, hl⟩ | ⟨hv, hM⟩
  · refine (take_nil r.p 1 r.nb x w (by rw [hr.cv, hv]) (hr.frozen 1) h1' h2).mono ?_
    rintro e w' ⟨rfl, M, b, hMw, hbw, hM2, hc2, hone⟩
    refine ⟨rfl, ⟨r.p, r.id, withL r.l x, .map (some M), M, fun s => if s = x.n then b else r.nb s⟩, rfl, rfl, ⟨hone.kind _ ⟨cs, hcs⟩, (hone.cell 0 (by decide)).trans hr.cid, hc2, .inr ⟨rfl, ?_⟩, hsort, ⟨_, rfl⟩, hlen, hclk, hnam⟩, hone.os, hone.tape, hone.output, hone.size, fun k hk hne _ => hone.block k hk hne, ?_, rfl⟩
    · rw [hl]
      exact ⟨hM2.1.mono (by omega), fun s hs => ⟨(hM2.2.1 s hs).1.mono (by omega), (hM2.2.1 s hs).2⟩, hM2.2.2⟩
    · rintro k ⟨_, rfl | ⟨s, hs, rfl⟩⟩
      · exact .inr hMw
      · right
        dsimp only at hs ⊢
        rcases hasN_with hr.sorted x hs with e | e
        · rw [if_pos e]; exact hbw
        · rw [hl] at e; simp [hasN] at e
  · have hcv : w.cell? ⟨r.p, 1, none⟩ = some (.map (some r.M)) := by rw [hr.cv, hv]
    have pne : ∀ k, r.foot k → r.p ≠ k := fun k hk e => by subst e; exact hr.pfoot hk
    cases hh : hasN r.l x.n
    · refine (take_new r.p 1 r.M n r.nb r.l x w hcv ⟨hM, hr.sorted, hn, hh, h1', h2⟩).mono ?_
      rintro e w' ⟨rfl, b, hbw, hM2, hg⟩
      have hfM : r.foot r.M := ⟨hv, .inl rfl⟩
      have hpb := hg.block r.p hpl (fun e => pne _ hfM (Option.some.inj e))
      refine ⟨rfl, ⟨r.p, r.id, withL r.l x, r.v, r.M, fun s => if s = x.n then b else r.nb s⟩, rfl, rfl, ⟨⟨cs, hpb.trans hcs⟩, (World.cell?_of_block (w := w) (a := ⟨r.p, 0, none⟩) hpb).trans hr.cid, (World.cell?_of_block (w := w) (a := ⟨r.p, 1, none⟩) hpb).trans hr.cv, .inr ⟨hv, hM2⟩, hsort, hr.isMap, hlen, hclk, hnam⟩, hg.os, hg.tape, hg.output, hg.size, fun k hk _ hf => hg.block k hk (fun e => hf (by rw [Option.some.inj e]; exact hfM)), ?_, rfl⟩
      rintro k ⟨_, rfl | ⟨s, hs, rfl⟩⟩
      · exact .inl hfM
      · dsimp only at hs ⊢
        by_cases e : s = x.n
        · rw [if_pos e]; exact .inr hbw
        · rw [if_neg e]
          rcases hasN_with hr.sorted x hs with e2 | e2
          · exact absurd e2 e
          · exact .inl ⟨hv, .inr ⟨s, e2, rfl⟩⟩
    · refine (take_in r.p 1 r.M n r.nb r.l x w hcv hM hr.sorted hn hh (fun y hy => wins_new (hx y (getR_mem hy).1)) h1' h2).mono ?_
      rintro e w' ⟨rfl, hM2, hg⟩
      have hfM : r.foot (r.nb x.n) := ⟨hv, .inr ⟨_, hh, rfl⟩⟩
      have hpb := hg.block r.p hpl (fun e => pne _ hfM (Option.some.inj e))
      refine ⟨rfl, ⟨r.p, r.id, withL r.l x, r.v, r.M, r.nb⟩, rfl, rfl, ⟨⟨cs, hpb.trans hcs⟩, (World.cell?_of_block (w := w) (a := ⟨r.p, 0, none⟩) hpb).trans hr.cid, (World.cell?_of_block (w := w) (a := ⟨r.p, 1, none⟩) hpb).trans hr.cv, .inr ⟨hv, hM2⟩, hsort, hr.isMap, hlen, hclk, hnam⟩, hg.os, hg.tape, hg.output, hg.size, fun k hk _ hf => hg.block k hk (fun e => hf (by rw [Option.some.inj e]; exact hfM)), ?_, rfl⟩
      rintro k ⟨_, rfl | ⟨s, hs, rfl⟩⟩
      · exact .inl ⟨hv, .inl rfl⟩
      · rcases hasN_with hr.sorted x hs with e2 | e2
        · exact .inl ⟨hv, .inr ⟨_, hh, by rw [e2]⟩⟩
        · exact .inl ⟨hv, .inr ⟨s, e2, rfl⟩⟩
end Go.Proofs.YtdfafhclhfijnaaGreatDoor
