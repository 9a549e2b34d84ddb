/- Lists of pieces in memory. -/
import Derived.Test.YticgkjcdhmejcaaDoorNextAll
namespace Go.Proofs.YticgkjcdhmejcaaDoor
open Go.RowKit
set_option linter.unusedVariables false

theorem Came.kept {w w' : World} {size : Nat} {ao : Option Addr} {b off len cap B : Nat} {olds : List Value} (h : Came w size ao b off len cap olds) (k : Kept B w w') (hb : 0 < cap → b < B) : Came w' size ao b off len cap olds := by
  refine ⟨h.le, h.addr, fun hp => by have := h.lt hp; have := k.size; omega, h.oldsLen, fun j u hj => ?_, fun j hj => ?_⟩
  · have hp : 0 < cap := by
      have h1 := h.le
      have h2 := h.oldsLen
      rcases Nat.eq_zero_or_pos cap with h0 | h0
      · have hl : len = 0 := by omega
        subst hl
        rw [Nat.zero_mul] at h2
        rw [List.eq_nil_of_length_eq_zero h2] at hj
        simp at hj
      · exact h0
    rw [k.cell (p := ⟨b, off + j, none⟩) (hb hp)]; exact h.olds j u hj
  · have hp : 0 < cap := by
      rcases Nat.eq_zero_or_pos cap with h0 | h0
      · subst h0; simp at hj
      · exact h0
    rw [k.cell (p := ⟨b, off + len * size + j, none⟩) (hb hp), k.frozen (p := ⟨b, off + len * size + j, none⟩) (hb hp)]; exact h.spare j hj

/-- Behind an append the slice is once more one that can be appended to: in its old array, or in a new one. -/
theorem came_next {W w : World} {e : TypeId} {size : Nat} {ao : Option Addr} {b off len cap m r : Nat} {olds ks : List Value} {v : Value}
    (hc : Came W size ao b off len cap olds) (h : Upon W e size ao b off len cap olds w v m ks r) (hz : 0 < size) :
    ∃ ao' b' off' cap', v = .slice ao' (len + m) cap' ∧ Came w size ao' b' off' (len + m) cap' (olds ++ ks) ∧ (b' = b ∧ cap' = cap ∨ W.heap.size ≤ b') := by
  have hkl := h.ksLen
  have hol := hc.oldsLen
  rcases h.val with ⟨hle, rfl, hr⟩ | ⟨hgt, g, c', rfl, ho⟩
  · refine ⟨ao, b, off, cap, rfl, ⟨hle, hc.addr, fun hp => ?_, by rw [List.length_append, hol, hkl, Nat.add_mul], fun j u hj => ?_, fun j hj => ?_⟩, .inl ⟨rfl, rfl⟩⟩
    · have := hc.lt hp; have := h.kept.size; omega
    · have hp : 0 < cap := by
        rcases Nat.eq_zero_or_pos cap with h0 | h0
        · have h1 : len = 0 := by omega
          have h2 : m = 0 := by omega
          subst h1 h2
          rw [Nat.zero_mul] at hol hkl
          rw [List.eq_nil_of_length_eq_zero hol, List.eq_nil_of_length_eq_zero hkl] at hj
          simp at hj
        · exact h0
      have hjl : j < (len + m) * size := by
        have : j < (olds ++ ks).length := by
          rcases Nat.lt_or_ge j (olds ++ ks).length with h1 | h1
          · exact h1
          · rw [List.getElem?_eq_none h1] at hj; cases hj
        rw [List.length_append, hol, hkl, ← Nat.add_mul] at this; exact this
      rw [h.inArray hc hp hr j hjl]; exact hj
    · have hp : 0 < cap := by
        rcases Nat.eq_zero_or_pos cap with h0 | h0
        · subst h0; simp at hj
        · exact h0
      have e1 : off + (len + m) * size + j = off + len * size + (m * size + j) := by rw [Nat.add_mul]; omega
      have e2 : m * size + j < (cap - len) * size := by
        have : (cap - (len + m)) * size + m * size = (cap - len) * size := by rw [← Nat.add_mul]; congr 1; omega
        omega
      have hs := hc.spare _ e2
      rw [e1, h.old (hc.lt hp) (fun j' hj' => by rintro ⟨_, h2⟩; omega), h.frozen ⟨b, _, none⟩ (hc.lt hp)]
      exact hs
  · refine ⟨_, g, 0, c', rfl, ⟨ho.le, fun _ => rfl, fun hp => ?_, by rw [List.length_append, hol, hkl, Nat.add_mul], fun j u hj => ?_, fun j hj => ?_⟩, .inr ho.new⟩
    · obtain ⟨h1, _⟩ := ho.there 0 (Nat.mul_pos hp hz)
      exact World.block_lt_of_cell? _ _ (Option.isSome_iff_exists.1 h1).choose_spec
    · have hjl : j < (len + m) * size := by
        have : j < (olds ++ ks).length := by
          rcases Nat.lt_or_ge j (olds ++ ks).length with h1 | h1
          · exact h1
          · rw [List.getElem?_eq_none h1] at hj; cases hj
        rw [List.length_append, hol, hkl, ← Nat.add_mul] at this; exact this
      rw [Nat.zero_add, ho.holds j hjl]; exact hj
    · rw [Nat.zero_add]
      refine ho.there _ ?_
      have : (c' - (len + m)) * size + (len + m) * size = c' * size := by rw [← Nat.add_mul]; congr 1; have := ho.le; omega
      omega

/-- What a slice has does not lie in block b. -/
def Apart (b : Nat) (v : Value) : Prop := ∀ a n c, v = .slice (some a) (n + 1) c → a.block ≠ b

/-- All pieces' cells. -/
def flat : List (Pc × Value) → List Value
  | [] => []
  | q :: l => pcCells q.1 q.2 ++ flat l
theorem flat_app (l : List (Pc × Value)) (q : Pc × Value) : flat (l ++ [q]) = flat l ++ pcCells q.1 q.2 := by
  induction l with
  | nil => simp [flat]
  | cons x l ih => simp [flat, ih]
theorem flat_length (l : List (Pc × Value)) : (flat l).length = l.length * 5 := by
  induction l with
  | nil => rfl
  | cons x l ih => simp only [flat, List.length_append, ih, List.length_cons, pcCells, List.length_nil]; omega
theorem flat_get (l : List (Pc × Value)) (i : Nat) (hi : i < l.length) (j : Nat) (hj : j < 5) : (flat l)[i * 5 + j]? = (pcCells (l[i]).1 (l[i]).2)[j]? := by
  induction l generalizing i with
  | nil => simp at hi
  | cons x l ih =>
    have hx : (pcCells x.1 x.2).length = 5 := rfl
    cases i with
    | zero =>
      simp only [flat, Nat.zero_mul, Nat.zero_add, List.getElem_cons_zero]
      rw [List.getElem?_append_left (by omega)]
    | succ i =>
      simp only [flat, List.getElem_cons_succ]
      rw [List.getElem?_append_right (by omega), hx, show (i + 1) * 5 + j - 5 = i * 5 + j by omega]
      exact ih i (by simp at hi; omega)

/-- A piece in memory: its bytes read as they are, and lie apart from block b. -/
structure PcOk (w : World) (b : Nat) (q : Pc × Value) : Prop where
  reads : ReadsOr w q.2 q.1.bytes
  apart : Apart b q.2
  shape : ∃ a c, q.2 = .slice a q.1.bytes.length c

theorem readsOr_apart {w w' : World} {v : Value} {bs : List Nat} {b : Nat} (h : ReadsOr w v bs) (ha : Apart b v) (hk : ∀ k, k < w.heap.size → k ≠ b → w'.heap[k]? = w.heap[k]?) (hs : w.heap.size ≤ w'.heap.size) : ReadsOr w' v bs := by
  rcases h with h | ⟨b', off, cap, h, h0, hb, h1⟩
  · exact .inl h
  · have hne : b' ≠ b := by
      have hsh := h.shape
      exact ha ⟨b', off, none⟩ (bs.length - 1) cap (by rw [hsh]; congr 1; omega)
    refine .inr ⟨b', off, cap, ⟨h.shape, h.lt, h.le, fun j hj => ?_⟩, h0, by omega, h1⟩
    rw [← h.cell j hj]
    exact World.cell?_of_block (a := ⟨b', off + j, none⟩) (hk b' hb hne)

theorem ReadsOr.block {w : World} {v : Value} {bs : List Nat} (h : ReadsOr w v bs) (hv : ∃ a c, v = .slice a bs.length c) : ∀ a n c, v = .slice (some a) (n + 1) c → a.block < w.heap.size := by
  intro a n c e
  rcases h with ⟨rfl, _⟩ | ⟨b', off, cap, h, h0, hb, h1⟩
  · obtain ⟨a', c', rfl⟩ := hv
    injection e with _ e _
    simp at e
  · have hsh := h.shape
    rw [hsh] at e
    injection e with e _ _
    injection e with e
    subst e
    exact hb

theorem upon_blocks {W w : World} {e : TypeId} {size : Nat} {ao : Option Addr} {b off len cap m r : Nat} {olds ks : List Value} {v : Value}
    (h : Upon W e size ao b off len cap olds w v m ks r) : ∀ k, k < W.heap.size → k ≠ b → w.heap[k]? = W.heap[k]? := by
  intro k hk hne
  refine h.kept.block hk ?_
  rintro p ⟨j, hj, rfl⟩
  exact fun e => hne e.symm

/-- What an append leaves of pieces that were there. -/
theorem PcOk.upon {W w : World} {e : TypeId} {size : Nat} {ao : Option Addr} {b off len cap m r b' : Nat} {olds ks : List Value} {v : Value} {q : Pc × Value}
    (h : PcOk W b q) (hu : Upon W e size ao b off len cap olds w v m ks r) (hb : b' = b ∨ W.heap.size ≤ b') : PcOk w b' q := by
  refine ⟨readsOr_apart h.reads h.apart (upon_blocks hu) hu.kept.size, fun a n c e => ?_, h.shape⟩
  rcases hb with rfl | hb
  · exact h.apart a n c e
  · have := h.reads.block h.shape a n c e; omega

theorem PcOk.kept {w w' : World} {b : Nat} {q : Pc × Value} (h : PcOk w b q) (k : Kept w.heap.size w w') : PcOk w' b q := ⟨h.reads.kept k, h.apart, h.shape⟩
end Go.Proofs.YticgkjcdhmejcaaDoor
