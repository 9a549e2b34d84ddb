/- Slices of bytes: what they read as, and what the functions on them return. -/
import Derived.Test.YticgkjcdhmejcaaDoorBack
import Derived.Test.YticgkjcdhmejcaaDoorGet
namespace Go.Proofs.YticgkjcdhmejcaaDoor
open Go.RowKit

theorem came_nil (w : World) (ao : Option Addr) (b off : Nat) : Came w 1 ao b off 0 0 (cellsOf []) :=
  ⟨Nat.le_refl _, fun h => absurd h (by decide), fun h => absurd h (by decide), rfl, fun j u h => by simp [cellsOf] at h, fun j h => by simp at h⟩

/-- PutVarint onto nil. -/
theorem put_nil (x : Int) (n : Nat) (w : World) (hx : x = (n : Int)) (hn : n < 18446744073709551616) :
    Calls Tryd.prog 11 #[.slice none 0 0, .int .u64 x] w fun e w' => ∃ (S g o cap : Nat), e = .returned (.slice (some ⟨g, o, none⟩) S cap) ∧ IsSize n S ∧
      Reads w' (.slice (some ⟨g, o, none⟩) S cap) g o cap (enc n S) ∧ w.heap.size ≤ g ∧ g < w'.heap.size ∧ S ≤ cap ∧ Kept w.heap.size w w' := by
  subst hx
  refine (put_any none 0 0 0 0 (cellsOf []) n w (came_nil w none 0 0) (by omega) hn).mono ?_
  rintro e w' ⟨S, r, v, rfl, hS, hup⟩
  have hl := enc_length hS
  have h1 := hS.1
  obtain ⟨g, c', hv, ho⟩ : ∃ g c', v = .slice (some ⟨g, 0, none⟩) (0 + S) c' ∧ OwnAt w w' 1 g c' (0 + S) (cellsOf [] ++ cellsOf (enc n S)) := by
    rcases hup.val with ⟨h, _, _⟩ | ⟨_, h⟩
    · omega
    · exact h
  rw [Nat.zero_add] at hv
  subst hv
  have hr : ∀ j, j < S → w'.cell? ⟨g, 0 + j, none⟩ = some (.int .u8 (((enc n S).getD j 0 : Nat) : Int)) := fun j hj => by
    have := ho.holds j (by omega)
    rw [← cellsOf_append, List.nil_append, cellsOf_get (by omega)] at this
    rw [Nat.zero_add]; exact this
  have hm := ho.max
  have hle := ho.le
  refine ⟨S, g, 0, c', rfl, hS, ⟨by rw [hl], enc_lt hS, by omega, by rw [hl]; exact hr⟩, ho.new, World.block_lt_of_cell? _ _ (hr 0 (by omega)), by omega, Kept.upon hup (Nat.le_refl _) (.inl rfl)⟩

/-- GetVarint of what reads as bs. -/
theorem get_reads {w : World} {v : Value} {b off cap : Nat} {bs : List Nat} (h : Reads w v b off cap bs) :
    Calls Tryd.prog 7 #[v] w fun e w' => e = gvRes (getv bs 0) ∧ w' = w := by
  rw [h.shape]
  exact get_some b off cap bs w h.lt h.le h.cell

theorem get_is {w : World} {v : Value} {b off cap : Nat} {bs : List Nat} {E : Ending} (h : Reads w v b off cap bs) (hE : gvRes (getv bs 0) = E) :
    Calls Tryd.prog 7 #[v] w fun e w' => e = E ∧ w' = w := by rw [← hE]; exact get_reads h

/-- A slice of bytes that came in: empty, or read. -/
def ReadsOr (w : World) (v : Value) (bs : List Nat) : Prop :=
  (bs = [] ∧ ∃ a cap, v = .slice a 0 cap) ∨ (∃ b off cap, Reads w v b off cap bs ∧ 0 < bs.length ∧ b < w.heap.size ∧ bs.length ≤ cap ∧ cap ≤ maxLen)

theorem ReadsOr.kept {w w' : World} {v : Value} {bs : List Nat} (h : ReadsOr w v bs) (k : Kept w.heap.size w w') : ReadsOr w' v bs := by
  rcases h with h | ⟨b, off, cap, h, h0, hb, h1⟩
  · exact .inl h
  · exact .inr ⟨b, off, cap, h.kept k hb, h0, by have := k.size; omega, h1⟩

theorem ReadsOr.lt {w : World} {v : Value} {bs : List Nat} (h : ReadsOr w v bs) : ∀ x ∈ bs, x < 256 := by
  rcases h with ⟨rfl, _⟩ | ⟨_, _, _, h, _⟩
  · intro x hx; cases hx
  · exact h.lt

theorem src_empty {P : Program} {tx e' : TypeId} (w : World) (hk : P.underlying tx = some (.slice e')) (a : Option Addr) (cap : Nat) : Src P 1 tx (.slice a 0 cap) 0 (cellsOf []) w := by
  cases a with
  | none => exact Src.ofNil w hk cap
  | some x => exact Src.ofSlice w hk x 0 cap [] rfl (fun j u h => by simp at h) (fun u h => by cases h)

theorem ReadsOr.src {P : Program} {tx e' : TypeId} {w : World} {v : Value} {bs : List Nat} (h : ReadsOr w v bs) (hk : P.underlying tx = some (.slice e')) : Src P 1 tx v bs.length (cellsOf bs) w := by
  rcases h with ⟨rfl, a, cap, rfl⟩ | ⟨b, off, cap, h, _, _⟩
  · exact src_empty w hk a cap
  · exact h.src hk

theorem Reads.take {w : World} {b off cap L : Nat} {bs : List Nat} (h : Reads w (.slice (some ⟨b, off, none⟩) L cap) b off cap bs) {k : Nat} (hk : k ≤ bs.length) :
    Reads w (.slice (some ⟨b, off, none⟩) k cap) b off cap (bs.take k) := by
  have hl : (bs.take k).length = k := by simp; omega
  refine ⟨by rw [hl], fun x hx => h.lt x (List.mem_of_mem_take hx), by have := h.le; omega, fun j hj => ?_⟩
  rw [hl] at hj
  have := h.cell j (by omega)
  rw [this]
  have e : (bs.take k).getD j 0 = bs.getD j 0 := by simp [hj]
  rw [e]

end Go.Proofs.YticgkjcdhmejcaaDoor
