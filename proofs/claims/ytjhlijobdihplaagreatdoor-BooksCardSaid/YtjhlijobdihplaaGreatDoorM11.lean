import Derived.Test.YtjhlijobdihplaaGreatDoorM10
import Derived.Test.YtjhlijobdihplaaGreatDoorM03
namespace Go.Proofs.YtjhlijobdihplaaGreatDoor
open Go.RowKit Go.Maps Go.Shelf

/-- a replica: its block, its number, its book, the maps behind it -/
structure RD where
  p : Nat
  id : Int
  l : List Reg
  v : Value
  M : Nat
  nb : ByteArray → Nat

def RD.foot (r : RD) (k : Nat) : Prop := r.v = .map (some r.M) ∧ footB r.M r.nb r.l k

def IdOk (i : Int) : Prop := -9223372036854775808 ≤ i ∧ i < 9223372036854775808
/-- a register that a call may have written -/
structure RegOk (y : Reg) : Prop where
  n : y.n.size ≤ 100
  f : y.f.size ≤ 100
  v : y.v.size ≤ 100
  c : IdOk y.c
  r : IdOk y.r
theorem small_size {s : ByteArray} {m : Int} (h : smallB s m = true) : (s.size : Int) ≤ m := by
  unfold smallB at h
  simp at h
  omega

/-- the replica lies in w -/
structure Rep (w : World) (r : RD) (n : Nat) : Prop where
  kind : ∃ cs, w.heap[r.p]? = some (.cells cs 108 (0, 0))
  cid : w.cell? ⟨r.p, 0, none⟩ = some (.int .i64 r.id)
  cv : w.cell? ⟨r.p, 1, none⟩ = some r.v
  book : BookAt w r.v r.M r.nb r.l n
  sorted : SortedB r.l
  isMap : ∃ q, r.v = .map q
  len : r.l.length ≤ n
  clock : clockL r.l ≤ n
  names : ∀ y ∈ r.l, RegOk y
  idr : IdOk r.id

theorem Rep.lt {w : World} {r : RD} {n : Nat} (h : Rep w r n) : r.p < w.heap.size := lt_of_cell h.cv
theorem foot_lt {w : World} {r : RD} {n : Nat} (h : Rep w r n) {k : Nat} (hk : r.foot k) : k < w.heap.size := by
  rcases h.book with ⟨h1, _⟩ | ⟨_, h1⟩
  · rw [hk.1] at h1; cases h1
  · exact h1.lt k hk.2
/-- what a replica's maps lie in are no cells -/
theorem foot_no_cells {w : World} {r : RD} {n : Nat} (h : Rep w r n) {k : Nat} (hk : r.foot k) : ∀ cs t f, w.heap[k]? ≠ some (.cells cs t f) := by
  intro cs t f hc
  rcases h.book with ⟨h1, _⟩ | ⟨_, h1⟩
  · rw [hk.1] at h1; cases h1
  · rcases hk.2 with rfl | ⟨s, hs, rfl⟩
    · obtain ⟨D, ⟨es, clock, h3, _⟩, _⟩ := h1.1
      rw [h3] at hc; cases hc
    · obtain ⟨D, ⟨es, clock, h3, _⟩, _⟩ := (h1.2.1 s hs).1
      rw [h3] at hc; cases hc
theorem Rep.pfoot {w : World} {r : RD} {n : Nat} (h : Rep w r n) : ¬ r.foot r.p := fun hk => by
  obtain ⟨cs, hcs⟩ := h.kind
  exact foot_no_cells h hk cs _ _ hcs
theorem Rep.frozen {w : World} {r : RD} {n : Nat} (h : Rep w r n) (j : Nat) : w.frozen? ⟨r.p, j, none⟩ = false := by
  obtain ⟨cs, hcs⟩ := h.kind
  simp [World.frozen?, hcs]

theorem bookAt_mono {w : World} {v : Value} {M : Nat} {nb : ByteArray → Nat} {l : List Reg} {n n' : Nat} (h : BookAt w v M nb l n) (hn : n ≤ n') : BookAt w v M nb l n' := by
  rcases h with h | ⟨h, h1, h2, h3⟩
  · exact .inl h
  · exact .inr ⟨h, h1.mono hn, fun s hs => ⟨(h2 s hs).1.mono hn, (h2 s hs).2⟩, h3⟩

theorem Rep.keep {w w' : World} {r : RD} {n n' : Nat} (h : Rep w r n) (hn : n ≤ n') (hp : w'.heap[r.p]? = w.heap[r.p]?) (hf : ∀ k, r.foot k → w'.heap[k]? = w.heap[k]?) : Rep w' r n' where
  kind := by obtain ⟨cs, hcs⟩ := h.kind; exact ⟨cs, hp.trans hcs⟩
  cid := (World.cell?_of_block (w := w) (a := ⟨r.p, 0, none⟩) hp).trans h.cid
  cv := (World.cell?_of_block (w := w) (a := ⟨r.p, 1, none⟩) hp).trans h.cv
  book := bookAt_mono (h.book.block (fun hne k hk => hf k ⟨by
    rcases h.book with ⟨h1, _⟩ | ⟨h1, _⟩
    · exact absurd h1 hne
    · exact h1, hk⟩)) hn
  sorted := h.sorted
  isMap := h.isMap
  len := Nat.le_trans h.len hn
  clock := by have := h.clock; omega
  names := h.names
  idr := h.idr

theorem Rep.below {w w' : World} {r : RD} {n n' : Nat} (h : Rep w r n) (hn : n ≤ n') (hb : Below w.heap.size w w') : Rep w' r n' :=
  h.keep hn (hb.block _ h.lt) (fun _ hk => hb.block _ (foot_lt h hk))

/-- what a call that writes into r changes -/
structure Eff (w w' : World) (r r' : RD) : Prop where
  os : w'.os = w.os
  tape : w'.tape = w.tape
  output : w'.output = w.output
  size : w.heap.size ≤ w'.heap.size
  block : ∀ k, k < w.heap.size → k ≠ r.p → ¬ r.foot k → w'.heap[k]? = w.heap[k]?
  foot : ∀ k, r'.foot k → r.foot k ∨ w.heap.size ≤ k
  hp : r'.p = r.p

theorem Eff.of_below {w w' : World} {r : RD} (hb : Below w.heap.size w w') : Eff w w' r r :=
  ⟨hb.os, hb.tape, hb.output, hb.size, fun k hk _ _ => hb.block k hk, fun _ h => .inl h, rfl⟩
theorem Eff.then_below {w w1 w2 : World} {r r' : RD} (h : Eff w w1 r r') (hb : Below w1.heap.size w1 w2) : Eff w w2 r r' :=
  ⟨hb.os.trans h.os, hb.tape.trans h.tape, hb.output.trans h.output, Nat.le_trans h.size hb.size, fun k hk h1 h2 => (hb.block k (Nat.lt_of_lt_of_le hk h.size)).trans (h.block k hk h1 h2), h.foot, h.hp⟩
theorem Eff.after_below {w w1 w2 : World} {r r' : RD} (hb : Below w.heap.size w w1) (h : Eff w1 w2 r r') : Eff w w2 r r' :=
  ⟨h.os.trans hb.os, h.tape.trans hb.tape, h.output.trans hb.output, Nat.le_trans hb.size h.size, fun k hk h1 h2 => (h.block k (Nat.lt_of_lt_of_le hk hb.size) h1 h2).trans (hb.block k hk),
   fun k hk => (h.foot k hk).elim .inl (fun e => .inr (Nat.le_trans hb.size e)), h.hp⟩

theorem clock_with {l : List Reg} (hs : SortedB l) {x : Reg} {n : Int} (hx : x.c ≤ n) (h : clockL l ≤ n) (h0 : 0 ≤ n) : clockL (withL l x) ≤ n := by
  refine clockL_le h0 fun y hy => ?_
  rw [withL_eq l x hs] at hy
  rcases withR_mem hy with rfl | hy
  · exact hx
  · exact Int.le_trans (le_clockL hy) h

theorem hasN_with {l : List Reg} (hs : SortedB l) (x : Reg) {s : ByteArray} (h : hasN (withL l x) s = true) : s = x.n ∨ hasN l s = true := by
  obtain ⟨y, hy, e⟩ := hasN_iff.1 h
  rw [withL_eq l x hs] at hy
  rcases withR_mem hy with rfl | hy
  · exact .inl e.symm
  · exact .inr (hasN_iff.2 ⟨y, hy, e⟩)

theorem wins_new {x y : Reg} (h : y.c < x.c) : winsB x y = true := by
  unfold winsB
  rw [if_neg (by omega)]
  simp [h]

/-- Take, of a register that is newer than all -/
theorem take_rep (r : RD) (n : Nat) (x : Reg) (w : World) (hr : Rep w r n) (hn : n < 100000) (hx : ∀ y ∈ r.l, y.c < x.c) (hxn : x.c ≤ n + 1) (h1 : RegOk x) (h2 : x.f.size ≤ maxLen) :
    Calls Tryz.prog 59 #[.pointer (some ⟨r.p, 1, none⟩), .agg #[.string x.n, .string x.f, .int .i64 x.c, .int .i64 x.r, .string x.v]] w
      fun e w' => e = .returned (.tuple #[]) ∧ ∃ r', r'.id = r.id ∧ r'.l = withL r.l x ∧ Rep w' r' (n + 1) ∧ Eff w w' r r' := by
  have h1' : x.n.size ≤ maxLen := Nat.le_trans h1.n (by unfold maxLen; decide)
  have hsort : SortedB (withL r.l x) := by rw [withL_eq r.l x hr.sorted]; exact withR_sorted x r.l hr.sorted
  have hlen : (withL r.l x).length ≤ n + 1 := by
    rw [withL_eq r.l x hr.sorted]
    have := withR_len x r.l
    have := hr.len
    omega
  have hclk : clockL (withL r.l x) ≤ (n + 1 : Nat) := clock_with hr.sorted (by omega) (by have := hr.clock; omega) (by omega)
  have hnam : ∀ y ∈ withL r.l x, RegOk y := fun y hy => by
    rw [withL_eq r.l x hr.sorted] at hy
    rcases withR_mem hy with rfl | hy
    · exact h1
    · exact hr.names y hy
  have hpl := hr.lt
  obtain ⟨cs, hcs⟩ := hr.kind
  rcases hr.book with ⟨hv, hl⟩ | ⟨hv, hM⟩
  · refine (take_nil r.p 1 r.nb x w (by rw [hr.cv, hv]) (hr.frozen 1) h1' h2).mono ?_
    rintro e w' ⟨rfl, M, b, hMw, hbw, hM2, hc2, hone⟩
    refine ⟨rfl, ⟨r.p, r.id, withL r.l x, .map (some M), M, fun s => if s = x.n then b else r.nb s⟩, rfl, rfl, ⟨hone.kind _ ⟨cs, hcs⟩, (hone.cell 0 (by decide)).trans hr.cid, hc2, .inr ⟨rfl, ?_⟩, hsort, ⟨_, rfl⟩, hlen, hclk, hnam, hr.idr⟩, hone.os, hone.tape, hone.output, hone.size, fun k hk hne _ => hone.block k hk hne, ?_, rfl⟩
    · rw [hl]
      exact ⟨hM2.1.mono (by omega), fun s hs => ⟨(hM2.2.1 s hs).1.mono (by omega), (hM2.2.1 s hs).2⟩, hM2.2.2⟩
    · rintro k ⟨_, rfl | ⟨s, hs, rfl⟩⟩
      · exact .inr hMw
      · right
        dsimp only at hs ⊢
        rcases hasN_with hr.sorted x hs with e | e
        · rw [if_pos e]; exact hbw
        · rw [hl] at e; simp [hasN] at e
  · have hcv : w.cell? ⟨r.p, 1, none⟩ = some (.map (some r.M)) := by rw [hr.cv, hv]
    have pne : ∀ k, r.foot k → r.p ≠ k := fun k hk e => by subst e; exact hr.pfoot hk
    cases hh : hasN r.l x.n
    · refine (take_new r.p 1 r.M n r.nb r.l x w hcv ⟨hM, hr.sorted, hn, hh, h1', h2⟩).mono ?_
      rintro e w' ⟨rfl, b, hbw, hM2, hg⟩
      have hfM : r.foot r.M := ⟨hv, .inl rfl⟩
      have hpb := hg.block r.p hpl (fun e => pne _ hfM (Option.some.inj e))
      refine ⟨rfl, ⟨r.p, r.id, withL r.l x, r.v, r.M, fun s => if s = x.n then b else r.nb s⟩, rfl, rfl, ⟨⟨cs, hpb.trans hcs⟩, (World.cell?_of_block (w := w) (a := ⟨r.p, 0, none⟩) hpb).trans hr.cid, (World.cell?_of_block (w := w) (a := ⟨r.p, 1, none⟩) hpb).trans hr.cv, .inr ⟨hv, hM2⟩, hsort, hr.isMap, hlen, hclk, hnam, hr.idr⟩, hg.os, hg.tape, hg.output, hg.size, fun k hk _ hf => hg.block k hk (fun e => hf (by rw [Option.some.inj e]; exact hfM)), ?_, rfl⟩
      rintro k ⟨_, rfl | ⟨s, hs, rfl⟩⟩
      · exact .inl hfM
      · dsimp only at hs ⊢
        by_cases e : s = x.n
        · rw [if_pos e]; exact .inr hbw
        · rw [if_neg e]
          rcases hasN_with hr.sorted x hs with e2 | e2
          · exact absurd e2 e
          · exact .inl ⟨hv, .inr ⟨s, e2, rfl⟩⟩
    · refine (take_in r.p 1 r.M n r.nb r.l x w hcv hM hr.sorted hn hh (fun y hy => wins_new (hx y (getR_mem hy).1)) h1' h2).mono ?_
      rintro e w' ⟨rfl, hM2, hg⟩
      have hfM : r.foot (r.nb x.n) := ⟨hv, .inr ⟨_, hh, rfl⟩⟩
      have hpb := hg.block r.p hpl (fun e => pne _ hfM (Option.some.inj e))
      refine ⟨rfl, ⟨r.p, r.id, withL r.l x, r.v, r.M, r.nb⟩, rfl, rfl, ⟨⟨cs, hpb.trans hcs⟩, (World.cell?_of_block (w := w) (a := ⟨r.p, 0, none⟩) hpb).trans hr.cid, (World.cell?_of_block (w := w) (a := ⟨r.p, 1, none⟩) hpb).trans hr.cv, .inr ⟨hv, hM2⟩, hsort, hr.isMap, hlen, hclk, hnam, hr.idr⟩, hg.os, hg.tape, hg.output, hg.size, fun k hk _ hf => hg.block k hk (fun e => hf (by rw [Option.some.inj e]; exact hfM)), ?_, rfl⟩
      rintro k ⟨_, rfl | ⟨s, hs, rfl⟩⟩
      · exact .inl ⟨hv, .inl rfl⟩
      · rcases hasN_with hr.sorted x hs with e2 | e2
        · exact .inl ⟨hv, .inr ⟨_, hh, by rw [e2]⟩⟩
        · exact .inl ⟨hv, .inr ⟨s, e2, rfl⟩⟩
end Go.Proofs.YtjhlijobdihplaaGreatDoor
namespace Go.Proofs.YtjhlijobdihplaaGreatDoor
open Go.RowKit Go.Maps Go.Shelf

theorem next_rep (r : RD) (n : Nat) (w : World) (hr : Rep w r n) (hn : n < 100000) :
    Calls Tryz.prog 82 #[.pointer (some ⟨r.p, 1, none⟩)] w fun e w' => e = .returned (.int .i64 (clockL r.l + 1)) ∧ Below w.heap.size w w' := by
  rcases hr.book with ⟨hv, hl⟩ | ⟨hv, hM⟩
  · rw [hl]
    exact next_nil r.p 1 w (by rw [hr.cv, hv])
  · exact next_any r.p 1 r.M n r.nb r.l w (by rw [hr.cv, hv]) hM hr.sorted (by have := hr.clock; omega)

theorem below_keep {w w' : World} {B b j : Nat} {u : Value} (hb : Below B w w') (hlt : b < B) (hc : w.cell? ⟨b, j, none⟩ = some u) : w'.cell? ⟨b, j, none⟩ = some u := (hb.cell (p := ⟨b, j, none⟩) hlt).trans hc
theorem below_frozen {w w' : World} {B b j : Nat} (hb : Below B w w') (hlt : b < B) (hc : w.frozen? ⟨b, j, none⟩ = false) : w'.frozen? ⟨b, j, none⟩ = false := (hb.frozen (p := ⟨b, j, none⟩) hlt).trans hc

set_option maxRecDepth 100000 in
set_option maxHeartbeats 1000000 in
theorem stamp_rep (r : RD) (n : Nat) (w : World) (hr : Rep w r n) (hn : n < 100000) :
    Calls Tryz.prog 60 #[.pointer (some ⟨r.p, 0, none⟩)] w fun e w' => e = .returned (.agg #[.int .i64 (clockL r.l + 1), .int .i64 r.id]) ∧ Below w.heap.size w w' := by
  have hcid := hr.cid
  have hlt := hr.lt
  have hW1 : Below w.heap.size w (w.alloc (.cells #[.int .i64 0, .int .i64 0] 97)).drew := ((Below.refl _ _).alloc (Nat.le_refl _) _).drew
  have hN := next_rep r n (w.alloc (.cells #[.int .i64 0, .int .i64 0] 97)).drew (hr.below (Nat.le_refl _) hW1) hn
  have cz : (w.alloc (.cells #[.int .i64 0, .int .i64 0] 97)).drew.cell? ⟨r.p, 0, none⟩ = some (.int .i64 r.id) := below_keep hW1 hlt hcid
  have s1 : (w.alloc (.cells #[.int .i64 0, .int .i64 0] 97)).drew.heap.size = w.heap.size + 1 := by simp
  have k0 : (w.alloc (.cells #[.int .i64 0, .int .i64 0] 97)).drew.cell? ⟨w.heap.size, 0, none⟩ = some (.int .i64 0) := by simp
  have k1 : (w.alloc (.cells #[.int .i64 0, .int .i64 0] 97)).drew.cell? ⟨w.heap.size, 1, none⟩ = some (.int .i64 0) := by simp
  have f0 : (w.alloc (.cells #[.int .i64 0, .int .i64 0] 97)).drew.frozen? ⟨w.heap.size, 0, none⟩ = false := by simp
  have f1 : (w.alloc (.cells #[.int .i64 0, .int .i64 0] 97)).drew.frozen? ⟨w.heap.size, 1, none⟩ = false := by simp
  obtain ⟨c, hcl⟩ : ∃ c, clockL r.l + 1 = c := ⟨_, rfl⟩
  rw [hcl] at hN ⊢
  rw [s1] at hN
  have HB : Hid (Below w.heap.size w (w.alloc (.cells #[.int .i64 0, .int .i64 0] 97)).drew) := hW1
  clear s1 hr hW1 hcl
  go_enter Tryz.func60, Tryz.ntmps60
  go_wp2
  go_region_with (go_at_call 82; refine hN.mono ?_; clear hN; rintro e w5 ⟨rfl, hb5⟩; have q0 := below_keep hb5 (Nat.lt_succ_of_lt hlt) cz; have q1 := below_keep hb5 (Nat.lt_succ_self _) k0; have q2 := below_keep hb5 (Nat.lt_succ_self _) k1; have q3 := below_frozen hb5 (Nat.lt_succ_self _) f0; have q4 := below_frozen hb5 (Nat.lt_succ_self _) f1)
  all_goals go_wp2
  all_goals refine bodyPost_ret (v := .agg #[.int .i64 c, .int .i64 r.id]) (by simp [results, Tryz.results60, go_sem, q1, q2]) rfl ?_
  all_goals exact ⟨rfl, ((HB.out.trans (hb5.mono (Nat.le_succ _))).setCell (p := ⟨w.heap.size, 0, none⟩) (Nat.le_refl _) _).setCell (p := ⟨w.heap.size, 1, none⟩) (Nat.le_refl _) _⟩
end Go.Proofs.YtjhlijobdihplaaGreatDoor
namespace Go.Proofs.YtjhlijobdihplaaGreatDoor
open Go.RowKit Go.Maps Go.Shelf

theorem clock_lt {l : List Reg} {y : Reg} (h : y ∈ l) : y.c < clockL l + 1 := by have := le_clockL h; omega

set_option maxRecDepth 100000 in
set_option maxHeartbeats 1000000 in
theorem putC_ok (r : RD) (n : Nat) (nm f v : ByteArray) (w : World) (hr : Rep w r n) (hn : n < 100000) (h1 : nm.size ≤ 100) (h2 : f.size ≤ maxLen) (h3 : v.size ≤ maxLen) (b1 : smallB nm 8 = true) (b2 : smallB f 4 = true) (b3 : (v.size : Int) ≤ 20) :
    Calls Tryz.prog 33 #[.pointer (some ⟨r.p, 0, none⟩), .string nm, .string f, .string v] w
      fun e w' => e = .returned .nilIface ∧ ∃ r', r'.id = r.id ∧ r'.l = withL r.l (putReg r.l r.id nm f v) ∧ Rep w' r' (n + 1) ∧ Eff w w' r r' := by
  have h1' : nm.size ≤ maxLen := Nat.le_trans h1 (by unfold maxLen; decide)
  have hck := checkPut_ok nm f v w h1' h2 h3 b1 b2 b3
  have hst := fun W (hb : Below w.heap.size w W) => stamp_rep r n W (hr.below (Nat.le_refl _) hb) hn
  have htk := fun W (hb : Below w.heap.size w W) => take_rep r n (putReg r.l r.id nm f v) W (hr.below (Nat.le_refl _) hb) hn (fun y hy => clock_lt hy) (by have := hr.clock; simp only [putReg]; omega) ⟨h1, by have := small_size b2; simp only [putReg]; omega, by simp only [putReg]; omega, by have := hr.clock; have := clockL_nonneg r.l; simp only [putReg, IdOk]; omega, hr.idr⟩ h2
  have hlt := hr.lt
  clear hr
  obtain ⟨x, hx⟩ : ∃ x, putReg r.l r.id nm f v = x := ⟨_, rfl⟩
  have HX : Hid (x = ⟨nm, f, clockL r.l + 1, r.id, v⟩) := hx.symm
  rw [hx] at htk ⊢
  obtain ⟨c, hcl⟩ : ∃ c, clockL r.l + 1 = c := ⟨_, rfl⟩
  rw [hcl] at hst
  have htk2 : ∀ W, Below w.heap.size w W → Calls Tryz.prog 59 #[.pointer (some ⟨r.p, 1, none⟩), .agg #[.string nm, .string f, .int .i64 c, .int .i64 r.id, .string v]] W
      fun e w' => e = .returned (.tuple #[]) ∧ ∃ r', r'.id = r.id ∧ r'.l = withL r.l x ∧ Rep w' r' (n + 1) ∧ Eff W w' r r' := fun W hb => by
    have := htk W hb
    rw [HX.out, hcl] at this
    rw [HX.out, hcl]; exact this
  clear htk hcl hx
  go_enter Tryz.func33, Tryz.ntmps33
  go_wp2_with (first | (go_at_call 57; refine hck.mono ?_; clear hck; rintro e w1 ⟨rfl, rfl⟩) | (go_at_call 58; refine (made_any r.p _).mono ?_; rintro e w2 ⟨rfl, rfl⟩))
  have hst1 := hst w2.drew (Below.refl _ _).drew
  clear hst
  go_region_with (first | (go_at_call 60; refine hst1.mono ?_; clear hst1; rintro e w5 ⟨rfl, hb5⟩) | (go_at_call 59; refine (htk2 w5 (by exact (Below.refl _ w2).drew.trans hb5)).mono ?_; clear htk2; rintro e w6 ⟨rfl, r', e1, e2, hR, hE⟩))
  all_goals go_wp2
  all_goals go_ret
  all_goals exact ⟨rfl, r', e1, e2, hR, Eff.after_below ((Below.refl _ w2).drew.trans hb5) hE⟩

set_option maxRecDepth 100000 in
set_option maxHeartbeats 1000000 in
theorem putC_no (p : Nat) (nm f v : ByteArray) (w : World) (h1 : nm.size ≤ maxLen) (h2 : f.size ≤ maxLen) (h3 : v.size ≤ maxLen) (h : (putErr nm f v).1 ≠ 0) :
    Calls Tryz.prog 33 #[.pointer (some ⟨p, 0, none⟩), .string nm, .string f, .string v] w
      fun e w' => e = .returned (.iface 110 (.pointer (some ⟨w.heap.size, 0, none⟩))) ∧ w' = w.alloc (.cells #[.int .i64 (putErr nm f v).1, .string (putErr nm f v).2] 115) := by
  have hck := checkPut_no nm f v w h1 h2 h3 h
  go_enter Tryz.func33, Tryz.ntmps33
  go_wp2_with (go_at_call 57; refine hck.mono ?_; clear hck; rintro e w1 ⟨rfl, rfl⟩)
  go_ret
  exact ⟨rfl, rfl⟩

set_option maxRecDepth 100000 in
set_option maxHeartbeats 1000000 in
theorem delC_no1 (p : Nat) (nm : ByteArray) (w : World) (h1 : nm.size ≤ maxLen) (b1 : smallB nm 8 = false) :
    Calls Tryz.prog 34 #[.pointer (some ⟨p, 0, none⟩), .string nm] w
      fun e w' => e = .returned (.iface 110 (.pointer (some ⟨w.heap.size, 0, none⟩))) ∧ w' = w.alloc (.cells #[.int .i64 1, .string nm] 115) := by
  have hck := checkName_no nm w h1 b1
  go_enter Tryz.func34, Tryz.ntmps34
  go_wp2_with (go_at_call 61; refine hck.mono ?_; clear hck; rintro e w1 ⟨rfl, rfl⟩)
  go_ret
  exact ⟨rfl, rfl⟩

theorem shows_rep (r : RD) (n : Nat) (nm : ByteArray) (w : World) (hr : Rep w r n) (h1 : nm.size ≤ maxLen) :
    Calls Tryz.prog 62 #[.pointer (some ⟨r.p, 1, none⟩), .string nm] w fun e w' => e = .returned (.bool (decide (0 < (fieldsL r.l nm).length))) ∧ Below w.heap.size w w' :=
  shows_any r.p 1 r.M n r.v r.nb r.l nm w hr.cv hr.isMap hr.book hr.sorted h1

set_option maxRecDepth 100000 in
set_option maxHeartbeats 1000000 in
theorem delC_no4 (r : RD) (n : Nat) (nm : ByteArray) (w : World) (hr : Rep w r n) (h1 : nm.size ≤ maxLen) (b1 : smallB nm 8 = true) (b2 : (fieldsL r.l nm).length = 0) :
    Calls Tryz.prog 34 #[.pointer (some ⟨r.p, 0, none⟩), .string nm] w
      fun e w' => ∃ b, w.heap.size ≤ b ∧ e = .returned (.iface 110 (.pointer (some ⟨b, 0, none⟩))) ∧ w'.cell? ⟨b, 0, none⟩ = some (.int .i64 4) ∧ w'.cell? ⟨b, 1, none⟩ = some (.string nm) ∧ Below w.heap.size w w' := by
  have hck := checkName_ok nm w h1 b1
  have hsh := shows_rep r n nm w hr h1
  rw [b2] at hsh
  simp only [Nat.lt_irrefl, decide_false] at hsh
  clear hr b2
  go_enter Tryz.func34, Tryz.ntmps34
  go_wp2_with (first | (go_at_call 61; refine hck.mono ?_; clear hck; rintro e w1 ⟨rfl, rfl⟩) | (go_at_call 58; refine (made_any r.p _).mono ?_; rintro e w2 ⟨rfl, rfl⟩) | (go_at_call 62; refine hsh.mono ?_; clear hsh; rintro e w3 ⟨rfl, hb3⟩) | (go_at_call 63; refine (fault_any 4 nm _).mono ?_; rintro e w4 ⟨rfl, rfl⟩))
  go_ret
  exact ⟨_, hb3.size, rfl, by simp, by simp, hb3.alloc hb3.size _⟩

set_option maxRecDepth 100000 in
set_option maxHeartbeats 1000000 in
theorem delC_ok (r : RD) (n : Nat) (nm : ByteArray) (w : World) (hr : Rep w r n) (hn : n < 100000) (h1 : nm.size ≤ 100) (b1 : smallB nm 8 = true) (b2 : (fieldsL r.l nm).length ≠ 0) :
    Calls Tryz.prog 34 #[.pointer (some ⟨r.p, 0, none⟩), .string nm] w
      fun e w' => e = .returned .nilIface ∧ ∃ r', r'.id = r.id ∧ r'.l = withL r.l (delReg r.l r.id nm) ∧ Rep w' r' (n + 1) ∧ Eff w w' r r' := by
  have h1' : nm.size ≤ maxLen := Nat.le_trans h1 (by unfold maxLen; decide)
  have hck := checkName_ok nm w h1' b1
  have hsh := shows_rep r n nm w hr h1'
  rw [decide_eq_true (Nat.pos_of_ne_zero b2)] at hsh
  have hst := fun W (hb : Below w.heap.size w W) => stamp_rep r n W (hr.below (Nat.le_refl _) hb) hn
  have htk := fun W (hb : Below w.heap.size w W) => take_rep r n (delReg r.l r.id nm) W (hr.below (Nat.le_refl _) hb) hn (fun y hy => clock_lt hy) (by have := hr.clock; simp only [delReg]; omega) ⟨h1, Nat.zero_le _, Nat.zero_le _, by have := hr.clock; have := clockL_nonneg r.l; simp only [delReg, IdOk]; omega, hr.idr⟩ (by show (0 : Nat) ≤ maxLen; exact Nat.zero_le _)
  have hlt := hr.lt
  clear hr b2
  obtain ⟨x, hx⟩ : ∃ x, delReg r.l r.id nm = x := ⟨_, rfl⟩
  have HX : Hid (x = ⟨nm, ⟨#[]⟩, clockL r.l + 1, r.id, ⟨#[]⟩⟩) := hx.symm
  rw [hx] at htk ⊢
  obtain ⟨c, hcl⟩ : ∃ c, clockL r.l + 1 = c := ⟨_, rfl⟩
  rw [hcl] at hst
  have htk2 : ∀ W, Below w.heap.size w W → Calls Tryz.prog 59 #[.pointer (some ⟨r.p, 1, none⟩), .agg #[.string nm, .string ⟨#[]⟩, .int .i64 c, .int .i64 r.id, .string ⟨#[]⟩]] W
      fun e w' => e = .returned (.tuple #[]) ∧ ∃ r', r'.id = r.id ∧ r'.l = withL r.l x ∧ Rep w' r' (n + 1) ∧ Eff W w' r r' := fun W hb => by
    have := htk W hb
    rw [HX.out, hcl] at this
    rw [HX.out, hcl]; exact this
  clear htk hcl hx
  go_enter Tryz.func34, Tryz.ntmps34
  go_wp2_with (first | (go_at_call 61; refine hck.mono ?_; clear hck; rintro e w1 ⟨rfl, rfl⟩) | (go_at_call 58; refine (made_any r.p _).mono ?_; rintro e w2 ⟨rfl, rfl⟩) | (go_at_call 62; refine hsh.mono ?_; clear hsh; rintro e w3 ⟨rfl, hb3⟩))
  have hst1 := hst w3.drew hb3.drew
  clear hst
  go_region_with (first | (go_at_call 60; refine hst1.mono ?_; clear hst1; rintro e w5 ⟨rfl, hb5⟩) | (go_at_call 59; refine (htk2 w5 (by exact hb3.drew.trans (hb5.mono hb3.size))).mono ?_; clear htk2; rintro e w6 ⟨rfl, r', e1, e2, hR, hE⟩))
  all_goals go_wp2
  all_goals go_ret
  all_goals exact ⟨rfl, r', e1, e2, hR, Eff.after_below (hb3.drew.trans (hb5.mono hb3.size)) hE⟩
end Go.Proofs.YtjhlijobdihplaaGreatDoor
