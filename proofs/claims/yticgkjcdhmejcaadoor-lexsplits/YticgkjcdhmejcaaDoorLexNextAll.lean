/- next: one token, whatever it is. -/
import Derived.Test.YticgkjcdhmejcaaDoorLexNext
namespace Go.Proofs.YticgkjcdhmejcaaDoor
open Go.RowKit
set_option linter.unusedVariables false

def LNextPost (w : World) (bs : List Nat) (i : Nat) (e : Ending) (w' : World) : Prop :=
  ((first (bs.drop i)).1 < 10 ∧ ∃ sb, e = .returned (tokRes (first (bs.drop i)).1 sb i (first (bs.drop i)).2.2) ∧ Spells sb (first (bs.drop i)).2.1 ∧ Kept w.heap.size w w') ∨
  (10 ≤ (first (bs.drop i)).1 ∧ ∃ v, e = .returned (noTok v) ∧ AtErr w.heap.size w' v ((first (bs.drop i)).1 - 10) i ∧ Kept w.heap.size w w')

theorem lpost_ok {a : Array Value} {w : World} {bs : List Nat} {i k n : Nat} {l : List Nat} (h : first (bs.drop i) = (k, l, n)) (hk : k < 10) (C : Calls Tryd.prog 37 a w fun e w' => ∃ sb, e = .returned (tokRes k sb i n) ∧ Spells sb l ∧ Kept w.heap.size w w') : Calls Tryd.prog 37 a w (LNextPost w bs i) :=
  C.mono fun e w' ⟨sb, h1, h2, h3⟩ => .inl (by rw [h]; exact ⟨hk, sb, h1, h2, h3⟩)
theorem lpost_bad {a : Array Value} {w : World} {bs : List Nat} {i k n : Nat} {l : List Nat} (h : first (bs.drop i) = (k + 10, l, n)) (C : Calls Tryd.prog 37 a w fun e w' => ∃ v, e = .returned (noTok v) ∧ AtErr w.heap.size w' v k i ∧ Kept w.heap.size w w') : Calls Tryd.prog 37 a w (LNextPost w bs i) :=
  C.mono fun e w' ⟨v, h1, h2, h3⟩ => .inr (by rw [h]; exact ⟨by simp, v, h1, by simpa using h2, h3⟩)

theorem lnext_any (s : ByteArray) (bs : List Nat) (i : Nat) (w : World) (hs : Spells s bs) (hl : s.size ≤ 100000) (hi : i < s.size) (h0 : (first (bs.drop i)).1 ≠ 0) :
    Calls Tryd.prog 37 #[.string s, .int .i64 (i : Int)] w (LNextPost w bs i) := by
  have g0 : (bs.drop i).getD 0 0 = bs.getD i 0 := by rw [drop_getD, Nat.add_zero]
  have g1 : ((bs.drop i).getD 1 0) = bs.getD (i + 1) 0 := drop_getD bs i 1
  have gap : isGap (bs.getD i 0) = false := by
    rcases hb : isGap (bs.getD i 0) with _ | _
    · rfl
    · exact absurd (by unfold first; rw [g0, if_pos hb]) h0
  have rem : ¬ (bs.getD i 0 = 47 ∧ bs.getD (i + 1) 0 = 47) := fun hr => h0 (by unfold first; rw [g0, g1, if_neg (by rw [gap]; decide), if_pos hr])
  have F : first (bs.drop i) = (if isLet (bs.getD i 0) = true then (1, (bs.drop i).take (runv isLD (bs.drop i)), runv isLD (bs.drop i))
    else if isDig (bs.getD i 0) = true then (if 10 < runv isDig (bs.drop i) then (14, [], 0) else (2, (bs.drop i).take (runv isDig (bs.drop i)), runv isDig (bs.drop i)))
    else if bs.getD i 0 = 34 then (if bs.getD (i + 1 + runv inText (bs.drop (i + 1))) 0 = 34 then (3, (bs.drop (i + 1)).take (runv inText (bs.drop (i + 1))), runv inText (bs.drop (i + 1)) + 2) else (13, [], 0))
    else if isMark (bs.getD i 0) = true then (4, (bs.drop i).take 1, 1)
    else (13, [], 0)) := by
    unfold first
    rw [g0, g1, if_neg (by rw [gap]; decide), if_neg rem, List.drop_drop, drop_getD, show i + (runv inText (bs.drop (i + 1)) + 1) = i + 1 + runv inText (bs.drop (i + 1)) by omega]
  by_cases hL : isLet (bs.getD i 0) = true
  · rw [if_pos hL] at F
    exact lpost_ok F (by decide) (next_word s bs i w hs hl hi _ rfl _ rfl hL)
  · rw [if_neg hL] at F
    have hL' : isLet (bs.getD i 0) = false := by simpa using hL
    by_cases hD : isDig (bs.getD i 0) = true
    · rw [if_pos hD] at F
      by_cases h10 : 10 < runv isDig (bs.drop i)
      · rw [if_pos h10] at F
        exact lpost_bad F (next_long s bs i w hs hl hi _ rfl h10 _ rfl hL' hD)
      · rw [if_neg h10] at F
        exact lpost_ok F (by decide) (next_number s bs i w hs hl hi _ rfl (by omega) _ rfl hL' hD)
    · rw [if_neg hD] at F
      have hD' : isDig (bs.getD i 0) = false := by simpa using hD
      by_cases hq : bs.getD i 0 = 34
      · rw [if_pos hq] at F
        by_cases h34 : bs.getD (i + 1 + runv inText (bs.drop (i + 1))) 0 = 34
        · rw [if_pos h34] at F
          exact lpost_ok F (by decide) (next_text s bs i w hs hl hi _ rfl h34 _ rfl hL' hD' hq)
        · rw [if_neg h34] at F
          exact lpost_bad F (next_open s bs i w hs hl hi _ rfl h34 _ rfl hL' hD' hq)
      · rw [if_neg hq] at F
        by_cases hM : isMark (bs.getD i 0) = true
        · rw [if_pos hM] at F
          exact lpost_ok F (by decide) (next_mark s bs i w hs hl hi _ rfl hL' hD' hq hM)
        · rw [if_neg hM] at F
          exact lpost_bad F (next_none s bs i w hs hl hi _ rfl hL' hD' hq (by simpa using hM))
end Go.Proofs.YticgkjcdhmejcaaDoor
