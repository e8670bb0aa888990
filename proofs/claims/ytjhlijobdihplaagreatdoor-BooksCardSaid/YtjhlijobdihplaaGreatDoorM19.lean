import Derived.Test.YtjhlijobdihplaaGreatDoorM15
import Derived.Test.YtjhlijobdihplaaGreatDoorX6
import Derived.Test.YtjhlijobdihplaaGreatDoorM17
import Derived.Test.YtjhlijobdihplaaGreatDoorM16
import Derived.Test.YtjhlijobdihplaaGreatDoorM12
namespace Go.Proofs.YtjhlijobdihplaaGreatDoor
open Go.RowKit Go.Maps Go.Shelf

/-- what plain.Registers is to tell -/
def RegC : Prop := ∀ (base pw N n i : Nat) (rs : Nat → RD) (w : World), PSt base w pw N rs n → i < N → N ≤ 5000 → n ≤ 5000 →
  Calls Tryz.prog 49 #[.pointer (some ⟨pw, 0, none⟩), .int .i64 i] w
    fun e w' => ∃ v, e = .returned (.tuple #[v, .bool true]) ∧ w'.ownsRow 0 99 5 v (rs i).l.length (rowCells (rs i).l) ∧ Below w.heap.size w w'
/-- what plain.Digest is to tell -/
def DigC : Prop := ∀ (base pw N n i : Nat) (rs : Nat → RD) (w : World) (s : ByteArray), TabT w → PSt base w pw N rs n → i < N → N ≤ 5000 → n ≤ 5000 → s.size ≤ 5000 →
  Calls Tryz.prog 25 #[.pointer (some ⟨pw, 0, none⟩), .int .i64 i, .string s] w
    fun e w' => e = .returned (.string (hashL (linesL (rs i).l s))) ∧ Below w.heap.size w w'

/-- asks: registers -/
theorem asks_six (hRC : RegC) (base lw pw N n i : Nat) (rs : Nat → RD) (os : Nat → Nat) (o : OpS) (w : World) (hP : PSt base w pw N rs n) (hL : LSt base w lw pw N os (fun j => (rs j).id) (fun j => (rs j).l)) (hi : i < N) (hN : N ≤ 5000) (hn : n ≤ 5000) (hk : o.kind = 6) :
    Calls Tryz.prog 9 #[.pointer (some ⟨lw, 0, none⟩), o.value, .int .i64 i] w fun e w' => e = .returned (.bool true) ∧ Below w.heap.size w w' := by
  obtain ⟨g, cap, ba, bc, hA⟩ := hL.at hi
  have hlen := (hP.reps i hi).len
  exact asks_regs lw pw g i N cap (os i) (rs i).id (rs i).l ba bc o w hA hi hN hk (by omega) (fun W hb => hRC base pw N n i rs W (hP.below (Nat.le_refl _) hb) hi hN hn)

/-- asks: a digest -/
theorem asks_seven (hDC : DigC) (base lw pw N n i : Nat) (rs : Nat → RD) (os : Nat → Nat) (o : OpS) (w : World) (hT : TabT w) (hP : PSt base w pw N rs n) (hL : LSt base w lw pw N os (fun j => (rs j).id) (fun j => (rs j).l)) (hi : i < N) (hN : N ≤ 5000) (hn : n ≤ 5000) (hk : o.kind = 7) (hs : o.s.size ≤ 5000) :
    Calls Tryz.prog 9 #[.pointer (some ⟨lw, 0, none⟩), o.value, .int .i64 i] w fun e w' => e = .returned (.bool true) ∧ Below w.heap.size w w' := by
  obtain ⟨g, cap, ba, bc, hA⟩ := hL.at hi
  have hr := hP.reps i hi
  have hlen := hr.len
  refine asks_digest lw pw g i N cap (os i) (rs i).id (rs i).l ba bc o w hA hi hN hk (by omega) hs (fun j hj => ?_) (fun j hj => ?_) (fun W hb => hDC base pw N n i rs W o.s (tabT_below hT hb) (hP.below (Nat.le_refl _) hb) hi hN hn hs)
  · have := hr.names _ (reg_mem hj)
    exact ⟨Nat.le_trans this.n (by decide), Nat.le_trans this.f (by decide), Nat.le_trans this.v (by decide)⟩
  · have := hr.names _ (reg_mem hj)
    exact ⟨this.c.1, this.c.2, this.r.1, this.r.2⟩

/-- every step of Books -/
theorem step_books (hRC : RegC) (hDC : DigC) (base lw pw k : Nat) (o : OpS) (w : World) (hE : ErrT w) (hT : TabT w) (h : WSt base w lw pw k) (hk : k ≤ 4096) (ho : o.kind = 1 ∨ o.kind = 2 ∨ o.kind = 3 ∨ o.kind = 4 ∨ o.kind = 5 ∨ o.kind = 6 ∨ o.kind = 7) (hs : o.s.size ≤ 5000) (ht : o.t.size ≤ 5000) (hu : o.u.size ≤ 5000) (ha : -9223372036854775808 ≤ o.a) (ha2 : o.a < 9223372036854775808) :
    Calls Tryz.prog 8 #[.pointer (some ⟨lw, 0, none⟩), o.value] w
      fun e w' => e = .returned (.bool true) ∧ WSt base w' lw pw (k + 1) ∧ Below base w w' := by
  by_cases h5 : o.kind = 1 ∨ o.kind = 2 ∨ o.kind = 3 ∨ o.kind = 4 ∨ o.kind = 5
  · exact step_any base lw pw k o w hE h hk h5 hs ht hu ha ha2
  · have h67 : o.kind = 6 ∨ o.kind = 7 := by omega
    obtain ⟨N, rs, os, n, h1, h2, h3, h4⟩ := h.ex
    by_cases h0 : 0 < N
    · obtain ⟨i, hpi, hi⟩ : ∃ i : Nat, pickI o.a N = (i : Int) ∧ i < N := by
        have hp := pickI_lt o.a N (by omega)
        exact ⟨(pickI o.a N).toNat, by omega, by omega⟩
      refine (step_ask base lw pw N n i rs os o w h3 h4 h0 (by omega) (by omega) ha ha2 hpi hi (fun W hbW p l => ?_)).mono ?_
      · rcases h67 with hk | hk
        · exact asks_six hRC base lw pw N n i rs os o W p l hi (by omega) (by omega) hk
        · exact asks_seven hDC base lw pw N n i rs os o W (tabT_below hT hbW) p l hi (by omega) (by omega) hk hs
      · rintro e w' ⟨rfl, q3⟩
        exact ⟨rfl, (h.below q3).mono (Nat.le_succ _), q3.mono h3.hb⟩
    · obtain ⟨la, lc, a, b⟩ := h4.law
      have e0 : N = 0 := by omega
      subst e0
      refine (step_none lw pw lc la o w (by simp [World.cell?, a]) (by omega)).mono ?_
      rintro e w' ⟨rfl, q3⟩
      exact ⟨rfl, (h.below q3).mono (Nat.le_succ _), q3.mono h3.hb⟩

theorem getD4 {P : Nat → Int → Prop} (h0 : P 0 4) (h1 : P 1 5) (h2 : P 2 6) (h3 : P 3 7) : ∀ j, j < 4 → P j ([4, 5, 6, 7].getD j 0)
  | 0, _ => h0
  | 1, _ => h1
  | 2, _ => h2
  | 3, _ => h3

set_option maxRecDepth 100000 in
/-- plays, as Books asks it -/
theorem plays_books (hRC : RegC) (hDC : DigC) (l : List OpS) (ad : Option Addr) (cap kb : Nat) (w : World) (hl : l.length ≤ maxLen) (hS : l ≠ [] → ∃ g off, ad = some ⟨g, off, none⟩ ∧ Sc w g off l) (hE : ErrT w) (hT : TabT w)
    (hb : ∀ i, i < l.length → (opAt l i).s.size ≤ 140737488355328 ∧ (opAt l i).t.size ≤ 140737488355328 ∧ (opAt l i).u.size ≤ 140737488355328)
    (ha : ∀ i, i < l.length → -9223372036854775808 ≤ (opAt l i).a ∧ (opAt l i).a < 9223372036854775808)
    (k0 : w.cell? ⟨kb, 0, none⟩ = some (.int .i64 4)) (k1 : w.cell? ⟨kb, 1, none⟩ = some (.int .i64 5)) (k2 : w.cell? ⟨kb, 2, none⟩ = some (.int .i64 6)) (k3 : w.cell? ⟨kb, 3, none⟩ = some (.int .i64 7)) :
    Calls Tryz.prog 6 #[.slice ad l.length cap, .slice (some ⟨kb, 0, none⟩) 4 4, .bool true] w fun e w' => e = .returned (.bool true) ∧ Below w.heap.size w w' := by
  refine plays_gen (fun wr k => WSt w.heap.size wr (w.heap.size + 1) w.heap.size k) l ad (some ⟨kb, 0, none⟩) cap 4 [4, 5, 6, 7] true w hl hS hb (by decide) (fun _ => ⟨kb, rfl, fun j hj => ?_⟩) (fun nd => wst_new (w.drewN nd)) (fun wr k h => h.mono (Nat.le_succ _)) (fun wr w' k h hb => h.below hb) (fun k wr hk hsz h hbw hkd => ?_) (fun wr hsz h => ?_) (fun _ wr la N lc i hsz h x3 hi => ?_)
  · exact getD4 (P := fun j x => w.cell? ⟨kb, j, none⟩ = some (.int .i64 x)) k0 k1 k2 k3 j hj
  · have hsu := scSum_succ l k hk
    have hsl := scSum_le l (k + 1)
    obtain ⟨a1, a2⟩ := ha k hk
    unfold opSize at hsu
    refine step_books hRC hDC w.heap.size (w.heap.size + 1) w.heap.size k (opAt l k) wr (errT_below hE hbw) (tabT_below hT hbw) h (by omega) ?_ (by omega) (by omega) (by omega) a1 a2
    rcases hkd with h | h | h | h | h
    · cases h
    · exact .inl h
    · exact .inr (.inl h)
    · exact .inr (.inr (.inl h))
    · simp only [List.mem_cons, List.not_mem_nil, or_false] at h
      exact .inr (.inr (.inr h))
  · obtain ⟨N, rs, os, n, hN, _, _, hL9⟩ := h.ex
    obtain ⟨la, lc, x1, _⟩ := hL9.law
    exact ⟨la, N, lc, by simp [World.cell?, x1], by omega⟩
  · obtain ⟨N', rs, os, n, hN, hn, hP9, hL9⟩ := h.ex
    obtain ⟨la', lc', x1, _⟩ := hL9.law
    have e : N = N' := by
      have : wr.cell? ⟨w.heap.size + 1, 1, none⟩ = some (.slice la' N' lc') := by simp [World.cell?, x1]
      rw [x3] at this; cases this; rfl
    subst e
    exact asks_six hRC w.heap.size (w.heap.size + 1) w.heap.size N n i rs os ⟨6, 0, 0, 0, ⟨#[]⟩, ⟨#[]⟩, ⟨#[]⟩⟩ wr hP9 hL9 hi (by omega) (by omega) rfl
end Go.Proofs.YtjhlijobdihplaaGreatDoor
namespace Go.Proofs.YtjhlijobdihplaaGreatDoor
open Go.RowKit Go.Maps Go.Shelf

/-- the digest's eight bytes as an array's value -/
def digV (s : ByteArray) : Value := .agg (((List.range 8).map fun i => Value.int .u8 (hashB (hashN s.data.toList) i)).toArray)

theorem cell_of_heap {W : World} {b j : Nat} {cs : Array Value} {t : TypeId} {f : Nat × Nat} (h : W.heap[b]? = some (.cells cs t f)) : W.cell? ⟨b, j, none⟩ = cs[j]? := by simp [World.cell?, h]

set_option maxRecDepth 100000 in
set_option maxHeartbeats 2000000 in
/-- plain.Digest, under a contract of contacts.Digest -/
theorem digestP (pw g i len cap p : Nat) (s L : ByteArray) (w : World) (hA : AtI w pw g i len cap p)
    (hC : ∀ W, Below w.heap.size w W → Calls Tryz.prog 50 #[.pointer (some ⟨p, 0, none⟩), .string s] W fun e w' => e = .returned (digV L) ∧ Below W.heap.size W w') :
    Calls Tryz.prog 25 #[.pointer (some ⟨pw, 0, none⟩), .int .i64 i, .string s] w fun e w' => e = .returned (.string (hashL L)) ∧ Below w.heap.size w w' := by
  obtain ⟨b1, hi, hlen, b3⟩ := hA
  have HC : Hid (∀ W, Below w.heap.size w W → Calls Tryz.prog 50 #[.pointer (some ⟨p, 0, none⟩), .string s] W fun e w' => e = .returned (digV L) ∧ Below W.heap.size W w') := hC
  clear hC
  go_enter Tryz.func25, Tryz.ntmps25
  go_wp2_with fail
  refine (HC.out w (Below.refl _ _)).mono ?_
  clear HC
  rintro e w1 ⟨rfl, hb1⟩
  have ed : digV L = .agg #[.int .u8 (hashB (hashN L.data.toList) 0), .int .u8 (hashB (hashN L.data.toList) 1), .int .u8 (hashB (hashN L.data.toList) 2), .int .u8 (hashB (hashN L.data.toList) 3), .int .u8 (hashB (hashN L.data.toList) 4), .int .u8 (hashB (hashN L.data.toList) 5), .int .u8 (hashB (hashN L.data.toList) 6), .int .u8 (hashB (hashN L.data.toList) 7)] := rfl
  rw [ed]
  clear b1 b3 ed
  have hcv := run_convert_bytes_arg (P := Tryz.prog) (w1.alloc (.cells #[.int .u8 (hashB (hashN L.data.toList) 0), .int .u8 (hashB (hashN L.data.toList) 1), .int .u8 (hashB (hashN L.data.toList) 2), .int .u8 (hashB (hashN L.data.toList) 3), .int .u8 (hashB (hashN L.data.toList) 4), .int .u8 (hashB (hashN L.data.toList) 5), .int .u8 (hashB (hashN L.data.toList) 6), .int .u8 (hashB (hashN L.data.toList) 7)] 101)) 86 5 Tryz.underlying86 Tryz.underlying5 w1.heap.size 0 8 8 ((List.range 8).map (hashB (hashN L.data.toList))) rfl (fun j hj => by
    have hn := World.alloc_heap_new w1 (.cells #[.int .u8 (hashB (hashN L.data.toList) 0), .int .u8 (hashB (hashN L.data.toList) 1), .int .u8 (hashB (hashN L.data.toList) 2), .int .u8 (hashB (hashN L.data.toList) 3), .int .u8 (hashB (hashN L.data.toList) 4), .int .u8 (hashB (hashN L.data.toList) 5), .int .u8 (hashB (hashN L.data.toList) 6), .int .u8 (hashB (hashN L.data.toList) 7)] 101)
    rw [Nat.zero_add, cell_of_heap hn]
    have : ((List.range 8).map (hashB (hashN L.data.toList))).getD j 0 = hashB (hashN L.data.toList) j := by simp [List.getD, hj]
    rw [this]
    rcases (show j = 0 ∨ j = 1 ∨ j = 2 ∨ j = 3 ∨ j = 4 ∨ j = 5 ∨ j = 6 ∨ j = 7 by omega) with rfl | rfl | rfl | rfl | rfl | rfl | rfl | rfl <;> rfl) 9 Tryz.underlying9
  have HE : Hid (strOfNums ((List.range 8).map (hashB (hashN L.data.toList))) = hashL L) := rfl
  generalize strOfNums ((List.range 8).map (hashB (hashN L.data.toList))) = r at *
  go_wp2_with fail
  go_ret
  exact ⟨by rw [← HE.out]; rfl, hb1.alloc hb1.size _⟩
end Go.Proofs.YtjhlijobdihplaaGreatDoor
