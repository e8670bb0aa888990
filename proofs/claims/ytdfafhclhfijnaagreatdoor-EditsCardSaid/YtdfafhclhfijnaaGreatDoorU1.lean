import Derived.Test.YtdfafhclhfijnaaGreatDoorT2
import Derived.Test.YtdfafhclhfijnaaGreatDoorT3
import Derived.Test.YtdfafhclhfijnaaGreatDoorT4
namespace Go.Proofs.YtdfafhclhfijnaaGreatDoor
open Go.RowKit Go.Maps Go.Shelf

/-- plain's world and the law's, k steps on -/
structure WSt (base : Nat) (w : World) (lw pw k : Nat) : Prop where
  ex : ∃ N rs os n, N ≤ k ∧ n ≤ k ∧ PSt base w pw N rs n ∧ LSt base w lw pw N os (fun j => (rs j).id) (fun j => (rs j).l)

theorem WSt.below {base : Nat} {w w' : World} {lw pw k : Nat} (h : WSt base w lw pw k) (hb : Below w.heap.size w w') : WSt base w' lw pw k := by
  obtain ⟨N, rs, os, n, h1, h2, h3, h4⟩ := h.ex
  exact ⟨N, rs, os, n, h1, h2, h3.below (Nat.le_refl _) hb, h4.below hb⟩
theorem WSt.mono {base : Nat} {w : World} {lw pw k k' : Nat} (h : WSt base w lw pw k) (hk : k ≤ k') : WSt base w lw pw k' := by
  obtain ⟨N, rs, os, n, h1, h2, h3, h4⟩ := h.ex
  exact ⟨N, rs, os, n, by omega, by omega, h3, h4⟩
theorem WSt.hb {base : Nat} {w : World} {lw pw k : Nat} (h : WSt base w lw pw k) : base ≤ w.heap.size := by
  obtain ⟨N, rs, os, n, h1, h2, h3, h4⟩ := h.ex
  exact h3.hb

theorem step_any (base lw pw k : Nat) (o : OpS) (w : World) (hE : ErrT w) (h : WSt base w lw pw k) (hk : k ≤ 4096) (ho : o.kind = 1 ∨ o.kind = 2 ∨ o.kind = 3 ∨ o.kind = 4 ∨ o.kind = 5) (hs : o.s.size ≤ 5000) (ht : o.t.size ≤ 5000) (hu : o.u.size ≤ 5000) (ha : -9223372036854775808 ≤ o.a) (ha2 : o.a < 9223372036854775808) :
    Calls Tryz.prog 6 #[.pointer (some ⟨lw, 0, none⟩), o.value] w
      fun e w' => e = .returned (.bool true) ∧ WSt base w' lw pw (k + 1) ∧ Below base w w' := by
  obtain ⟨N, rs, os, n, h1, h2, h3, h4⟩ := h.ex
  by_cases hk1 : o.kind = 1
  · refine (step_new base lw pw N n rs os o w h3 h4 (by omega) hk1).mono ?_
    rintro e w' ⟨rfl, rs', os', q1, q2, q3⟩
    exact ⟨rfl, ⟨N + 1, rs', os', n, by omega, by omega, q1, q2⟩, q3⟩
  · by_cases h0 : 0 < N
    · obtain ⟨i, hpi, hi⟩ : ∃ i : Nat, pickI o.a N = (i : Int) ∧ i < N := by
        have hp := pickI_lt o.a N (by omega)
        exact ⟨(pickI o.a N).toNat, by omega, by omega⟩
      rcases ho with ho | ho | ho | ho
      · exact absurd ho hk1
      · refine (step_put base lw pw N n i rs os o w hE h3 h4 h0 (by omega) (by omega) ho hs ht hu ha ha2 hpi hi).mono ?_
        rintro e w' ⟨rfl, rs', q1, q2, q3⟩
        exact ⟨rfl, ⟨N, rs', os, n + 1, by omega, by omega, q1, q2⟩, q3⟩
      · refine (step_del base lw pw N n i rs os o w hE h3 h4 h0 (by omega) (by omega) ho hs ha ha2 hpi hi).mono ?_
        rintro e w' ⟨rfl, rs', q1, q2, q3⟩
        exact ⟨rfl, ⟨N, rs', os, n + 1, by omega, by omega, q1, q2⟩, q3⟩
      · refine (step_asks base lw pw N n i rs os o w h3 h4 h0 (by omega) (by omega) ho hs ha ha2 hpi hi).mono ?_
        rintro e w' ⟨rfl, q3⟩
        exact ⟨rfl, (h.below q3).mono (Nat.le_succ _), q3.mono h3.hb⟩
    · obtain ⟨la, lc, a, b⟩ := h4.law
      have e0 : N = 0 := by omega
      subst e0
      refine (step_none lw pw lc la o w (by simp [World.cell?, a]) hk1).mono ?_
      rintro e w' ⟨rfl, q3⟩
      exact ⟨rfl, (h.below q3).mono (Nat.le_succ _), q3.mono h3.hb⟩
end Go.Proofs.YtdfafhclhfijnaaGreatDoor
