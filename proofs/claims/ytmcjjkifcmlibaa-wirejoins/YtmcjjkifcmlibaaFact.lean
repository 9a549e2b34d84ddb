/- The statement's own small fact: three hundred. -/
import Derived.Test.YtmcjjkifcmlibaaBack
import Derived.Test.YtmcjjkifcmlibaaGet
namespace Go.Proofs.Ytmcjjkifcmlibaa
open Go.RowKit

theorem came_nil (w : World) (ao : Option Addr) (b off : Nat) : Came w 1 ao b off 0 0 (cellsOf []) :=
  ⟨Nat.le_refl _, fun h => absurd h (by decide), fun h => absurd h (by decide), rfl, fun j u h => by simp [cellsOf] at h, fun j h => by simp at h⟩

/-- PutVarint onto nil. -/
theorem put_nil (x : Int) (n : Nat) (w : World) (hx : x = (n : Int)) (hn : n < 18446744073709551616) :
    Calls Try.prog 6 #[.slice none 0 0, .int .u64 x] w fun e w' => ∃ (S g o cap : Nat), e = .returned (.slice (some ⟨g, o, none⟩) S cap) ∧ IsSize n S ∧
      Reads w' (.slice (some ⟨g, o, none⟩) S cap) g o cap (enc n S) ∧ w.heap.size ≤ g ∧ g < w'.heap.size ∧ S ≤ cap ∧ Kept w.heap.size w w' := by
  subst hx
  refine (put_any none 0 0 0 0 (cellsOf []) n w (came_nil w none 0 0) (by omega) hn).mono ?_
  rintro e w' ⟨S, r, v, rfl, hS, hup⟩
  have hl := enc_length hS
  have h1 := hS.1
  obtain ⟨g, c', hv, ho⟩ : ∃ g c', v = .slice (some ⟨g, 0, none⟩) (0 + S) c' ∧ OwnAt w w' 1 g c' (0 + S) (cellsOf [] ++ cellsOf (enc n S)) := by
    rcases hup.val with ⟨h, _, _⟩ | ⟨_, h⟩
    · omega
    · exact h
  rw [Nat.zero_add] at hv
  subst hv
  have hr : ∀ j, j < S → w'.cell? ⟨g, 0 + j, none⟩ = some (.int .u8 (((enc n S).getD j 0 : Nat) : Int)) := fun j hj => by
    have := ho.holds j (by omega)
    rw [← cellsOf_append, List.nil_append, cellsOf_get (by omega)] at this
    rw [Nat.zero_add]; exact this
  have hm := ho.max
  have hle := ho.le
  refine ⟨S, g, 0, c', rfl, hS, ⟨by rw [hl], enc_lt hS, by omega, by rw [hl]; exact hr⟩, ho.new, World.block_lt_of_cell? _ _ (hr 0 (by omega)), by omega, Kept.upon hup (Nat.le_refl _) (.inl rfl)⟩

/-- GetVarint of what reads as bs. -/
theorem get_reads {w : World} {v : Value} {b off cap : Nat} {bs : List Nat} (h : Reads w v b off cap bs) :
    Calls Try.prog 7 #[v] w fun e w' => e = gvRes (getv bs 0) ∧ w' = w := by
  rw [h.shape]
  exact get_some b off cap bs w h.lt h.le h.cell

theorem get_is {w : World} {v : Value} {b off cap : Nat} {bs : List Nat} {E : Ending} (h : Reads w v b off cap bs) (hE : gvRes (getv bs 0) = E) :
    Calls Try.prog 7 #[v] w fun e w' => e = E ∧ w' = w := by rw [← hE]; exact get_reads h

theorem size300 : IsSize 300 2 := ⟨by decide, by decide, by decide, fun _ => by decide⟩
theorem enc300 : enc 300 2 = [172, 2] := by decide
theorem gv300 : gvRes (getv (enc 300 2) 0) = .returned (.tuple #[.int .u64 300, .int .i64 2, .nilIface]) := by
  rw [enc300]; rfl
theorem zig1 : zig (-1) = 1 := by decide

set_option maxHeartbeats 1000000 in
set_option maxRecDepth 100000 in
theorem fact_any (w : World) : Calls Try.prog 5 #[] w fun e w' => e = .returned (.bool true) ∧ Kept w.heap.size w w' := by
  go_enter Try.func5, Try.ntmps5
  go_wp2_with fail
  refine (put_nil 300 300 _ rfl (by decide)).mono ?_
  rintro e w1 ⟨S, g, o, cap, rfl, hS, hr, hg, hg1, hcap, hk⟩
  obtain rfl : S = 2 := isSize_unique hS size300
  have c0 : w1.cell? ⟨g, o, none⟩ = some (.int .u8 172) := by have := hr.cell 0 (by rw [enc300]; decide); rw [enc300] at this; exact this
  have c1 : w1.cell? ⟨g, o + 1, none⟩ = some (.int .u8 2) := by have := hr.cell 1 (by rw [enc300]; decide); rw [enc300] at this; exact this
  clear hS
  go_wp2_with fail
  refine (get_is hr gv300).mono ?_
  rintro e w2 ⟨rfl, rfl⟩
  go_wp2_with fail
  refine (zig_any (-1) _ (by decide) (by decide)).mono ?_
  rintro e w3 ⟨rfl, rfl⟩
  rw [zig1]
  go_wp2
  go_ret
  exact ⟨rfl, hk⟩
end Go.Proofs.Ytmcjjkifcmlibaa
