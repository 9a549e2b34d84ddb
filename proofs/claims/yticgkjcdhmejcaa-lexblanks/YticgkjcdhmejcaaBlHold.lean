/- What holds through LexBlanks' first loop. -/
import Derived.Test.YticgkjcdhmejcaaBlFact
import Derived.Test.YticgkjcdhmejcaaBlPlain
import Derived.Test.YticgkjcdhmejcaaBld
namespace Go.Proofs.Yticgkjcdhmejcaa
open Go.RowKit
set_option linter.unusedVariables false
set_option linter.unusedSimpArgs false

theorem outv_app (ps : List (Nat × Tk)) (q : Nat × Tk) : outv (ps ++ [q]) = outv ps ++ sepv q.1 ++ bodyOf q.2 := by
  induction ps with
  | nil => simp [outv]
  | cons x ps ih => simp [outv, ih]
theorem newToks_app (ps : List (Nat × Tk)) (q : Nat × Tk) (i : Nat) : newToks i (ps ++ [q]) = newToks i ps ++ [⟨q.2.kind, q.2.text, i + (outv ps).length + (sepv q.1).length⟩] := by
  induction ps generalizing i with
  | nil => simp [outv, newToks]
  | cons x ps ih =>
    simp only [List.cons_append, newToks, ih, outv, List.length_append]
    congr 4
    omega
def places (ps : List (Nat × Tk)) : List Nat := (newToks 0 ps).map Tk.place
theorem places_length (ps : List (Nat × Tk)) : (places ps).length = ps.length := by simp [places, newToks_length]
theorem places_app (ps : List (Nat × Tk)) (q : Nat × Tk) : places (ps ++ [q]) = places ps ++ [(outv ps).length + (sepv q.1).length] := by simp [places, newToks_app]
def intCells (l : List Nat) : List Value := l.map fun x => .int .i64 ((x : Nat) : Int)
theorem intCells_length (l : List Nat) : (intCells l).length = l.length := by simp [intCells]

theorem info_int : (Try.prog.info? 3).map (fun i => (i.zero, i.size, i.bytes)) = some (some (.int .i64 0), 1, 8) := by kernel_rfl

theorem alloc_grown (w : World) (o : Obj) : w.grownBy (w.alloc o) none :=
  ⟨rfl, rfl, rfl, by simp, fun k hk _ => by
    have : (w.alloc o).heap = w.heap.push o := rfl
    rw [this, Array.getElem?_push_lt hk, Array.getElem?_eq_getElem hk]⟩
theorem none_row {v : Value} : v.ownBlock = none ∨ v.ownBlock ≠ (none : Option Nat) := by
  cases v.ownBlock <;> simp
theorem Bd.alloc {B b : Nat} {p v : Value} {xs : List Nat} {w : World} (h : Bd B b p v xs w) (o : Obj) : Bd B b p v xs (w.alloc o) := h.grown (alloc_grown w o) (by simp) none_row

/-- The builder and the list of places, in one world. -/
structure BH (w2 : World) (bb : Nat) (p v va : Value) (xs : List Nat) (ps : List Nat) (wr : World) : Prop where
  bd : Bd bb bb p v xs wr
  ptr : p = .pointer none ∨ p = selfPtr bb
  row : wr.ownsRow bb 3 1 va ps.length (intCells ps)
  kept : Kept bb w2 wr
  lt : bb < wr.heap.size

theorem BH.alloc {w2 wr : World} {bb : Nat} {p v va : Value} {xs ps : List Nat} (h : BH w2 bb p v va xs ps wr) (o : Obj) : BH w2 bb p v va xs ps (wr.alloc o) :=
  ⟨h.bd.alloc o, h.ptr, h.row.kept (alloc_grown wr o) none_row, h.kept.alloc (Nat.le_of_lt h.lt) o, by simp; have := h.lt; omega⟩

theorem own_others {w w' : World} {B b : Nat} {p v va : Value} {xs : List Nat} {n : Nat} {zs : List Value} (h : w.ownsRow B 3 1 va n zs) (hb : Bd B b p v xs w) (ho : Others b w w') : w'.ownsRow B 3 1 va n zs := by
  refine ⟨h.1, ?_⟩
  rcases h.2 with hn | ⟨g, cap, cur, rfl, hg, hgg, rest⟩
  · exact .inl hn
  · refine .inr ⟨g, cap, cur, rfl, hg, ?_, rest⟩
    rw [ho g cur 3 (0, 0) hgg (by decide) ?_]
    · exact hgg
    · rintro rfl
      have := hb.here
      rw [hgg] at this
      injection this with this
      injection this with _ this _
      exact absurd this (by decide)

theorem BH.wrote {w2 wr w' : World} {bb : Nat} {p v va v' : Value} {xs ys ps : List Nat} (h : BH w2 bb p v va xs ps wr) (hb : Bd bb bb (selfPtr bb) v' ys w') (hk : Kept bb wr w') (ho : Others bb wr w') (hs : wr.heap.size ≤ w'.heap.size) : BH w2 bb (selfPtr bb) v' va ys ps w' :=
  ⟨hb, .inr rfl, own_others h.row h.bd ho, h.kept.trans hk, by have := h.lt; omega⟩

theorem BH.grew {w2 wr w' : World} {bb : Nat} {p v va va' : Value} {xs ps qs : List Nat} (h : BH w2 bb p v va xs ps wr) (hr : w'.ownsRow bb 3 1 va' qs.length (intCells qs)) (hg : wr.grownBy w' va.ownBlock) : BH w2 bb p v va' xs qs w' := by
  refine ⟨h.bd.grown hg (own_type h.row h.bd.here (by decide)) ?_, h.ptr, hr, h.kept.trans (kept_grown h.row hg (Nat.le_of_lt h.lt)), by have := h.lt; have := hg.size; omega⟩
  rcases h.bd.own.2 with ⟨hv, _⟩ | ⟨g, cap, cur, hv, _, hgg, _⟩
  · exact .inl (by rw [hv]; rfl)
  · refine .inr ?_
    rw [hv]
    exact own_type h.row hgg (by decide)

theorem bh_start (w : World) : BH w w.heap.size (.pointer none) (.slice none 0 0) (.slice none 0 0) [] [] (w.alloc (.cells #[.pointer none, .slice none 0 0] 47)) := by
  refine ⟨⟨Nat.le_refl _, ?_, ⟨rfl, .inl ⟨rfl, rfl⟩⟩⟩, .inl rfl, ⟨rfl, .inl ⟨rfl, rfl⟩⟩, Kept.alloc (Kept.refl _ _) (Nat.le_refl _) _, by simp⟩
  show (w.heap.push _)[w.heap.size]? = _
  simp

theorem pick_any (z : Int) (w : World) (h0 : -9223372036854775808 ≤ z) (h1 : z ≤ 9223372036854775807) :
    Calls Try.prog 10 #[.int .i64 z, .int .i64 4] w fun e w' => ∃ k : Nat, k < 4 ∧ e = .returned (.int .i64 (k : Int)) ∧ w' = w := by
  go_enter Try.func10, Try.ntmps10
  go_wp2
  go_ret
  refine ⟨((IntKind.u64.wrap z) % 4).toNat, ?_, ret_i64 ?_, rfl⟩
  · rw [IntKind.wrap_u64]; omega
  · have hw : 0 ≤ IntKind.u64.wrap z := by rw [IntKind.wrap_u64]; omega
    rw [Int.tmod_eq_emod_of_nonneg hw]
    unfold wrap64
    omega

/-- The constant gaps. -/
theorem sep_cell (w : World) (k : Nat) (hk : k < 4) : (w.alloc (.cells #[.string ⟨#[32]⟩, .string ⟨#[10]⟩, .string ⟨#[32, 47, 47, 32, 123, 32, 48, 32, 34, 10]⟩, .string ⟨#[32, 32, 10, 32]⟩] 9)).cell? ⟨w.heap.size, k, none⟩ = some (.string (str (sepv k))) := by
  have : k = 0 ∨ k = 1 ∨ k = 2 ∨ k = 3 := by omega
  rcases this with rfl | rfl | rfl | rfl <;> simp <;> rfl
theorem sep_lt (k : Nat) : ∀ x ∈ sepv k, x < 256 := by
  unfold sepv
  split <;> simp
theorem sep_len (k : Nat) : 1 ≤ (sepv k).length ∧ (sepv k).length ≤ 10 := by
  unfold sepv
  split <;> simp
end Go.Proofs.Yticgkjcdhmejcaa
