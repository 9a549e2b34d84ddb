/- Tokens, as plain lists of bytes have them: no program. -/
import Derived.Test.YticgkjcdhmejcaaSp
namespace Go.Proofs.Yticgkjcdhmejcaa
set_option linter.unusedVariables false

/-- A token. -/
structure Tk where
  kind : Nat
  text : List Nat
  place : Nat

def isDig (c : Nat) : Bool := decide (48 ≤ c) && decide (c ≤ 57)
def isLet (c : Nat) : Bool := decide (65 ≤ c) && decide (c ≤ 90) || decide (97 ≤ c) && decide (c ≤ 122) || decide (c = 95) || decide (c = 46)
def isLD (c : Nat) : Bool := isLet c || isDig c
def isGap (c : Nat) : Bool := decide (c = 32) || decide (c = 10)
def inLine (c : Nat) : Bool := !decide (c = 10)
def inText (c : Nat) : Bool := !decide (c = 34) && !decide (c = 10)
def isMark (c : Nat) : Bool := decide (c = 123) || decide (c = 125) || decide (c = 61) || decide (c = 59) || decide (c = 60) || decide (c = 62) || decide (c = 44) || decide (c = 45)

/-- How many such bytes stand first. -/
def runv (p : Nat → Bool) : List Nat → Nat
  | [] => 0
  | c :: r => if p c = true then runv p r + 1 else 0

theorem runv_le (p : Nat → Bool) (r : List Nat) : runv p r ≤ r.length := by
  induction r with
  | nil => exact Nat.le_refl _
  | cons c r ih => simp only [runv]; split <;> simp <;> omega
theorem runv_stop (p : Nat → Bool) (r : List Nat) (h : runv p r < r.length) : p (r.getD (runv p r) 0) = false := by
  induction r with
  | nil => simp at h
  | cons c r ih =>
    by_cases hc : p c = true
    · simp only [runv, if_pos hc] at h ⊢
      rw [List.getD_cons_succ]
      exact ih (by simp at h; omega)
    · simp only [runv, if_neg hc] at h ⊢
      simpa using hc
theorem runv_all (p : Nat → Bool) (r : List Nat) (k : Nat) (h : k < runv p r) : p (r.getD k 0) = true := by
  induction r generalizing k with
  | nil => simp [runv] at h
  | cons c r ih =>
    by_cases hc : p c = true
    · simp only [runv, if_pos hc] at h
      cases k with
      | zero => simpa using hc
      | succ k => rw [List.getD_cons_succ]; exact ih k (by omega)
    · simp only [runv, if_neg hc] at h; omega
theorem runv_zero (p : Nat → Bool) (bs : List Nat) (i : Nat) (h : p (bs.getD i 0) = false ∨ bs.length ≤ i) : runv p (bs.drop i) = 0 := by
  rcases Nat.lt_or_ge i bs.length with hi | hi
  · rw [List.drop_eq_getElem_cons hi]
    have : p bs[i] = false := by
      rcases h with h | h
      · simpa [hi] using h
      · omega
    simp [runv, this]
  · rw [List.drop_eq_nil_of_le hi]; rfl
theorem runv_more (p : Nat → Bool) (bs : List Nat) (i : Nat) (hi : i < bs.length) (h : p (bs.getD i 0) = true) : runv p (bs.drop i) = runv p (bs.drop (i + 1)) + 1 := by
  rw [List.drop_eq_getElem_cons hi]
  have : p bs[i] = true := by simpa [hi] using h
  simp [runv, this]

/-- What stands first: its kind (0: nothing, 1 to 4: a token, 10 and more: an error), what it says, how many bytes it has. -/
def first (r : List Nat) : Nat × List Nat × Nat :=
  if isGap (r.getD 0 0) = true then (0, [], 1)
  else if r.getD 0 0 = 47 ∧ r.getD 1 0 = 47 then (0, [], runv inLine r)
  else if isLet (r.getD 0 0) = true then (1, r.take (runv isLD r), runv isLD r)
  else if isDig (r.getD 0 0) = true then (if 10 < runv isDig r then (14, [], 0) else (2, r.take (runv isDig r), runv isDig r))
  else if r.getD 0 0 = 34 then (if r.getD (runv inText (r.drop 1) + 1) 0 = 34 then (3, (r.drop 1).take (runv inText (r.drop 1)), runv inText (r.drop 1) + 2) else (13, [], 0))
  else if isMark (r.getD 0 0) = true then (4, r.take 1, 1)
  else (13, [], 0)

def lexv : Nat → Nat → List Nat → Except (Nat × Nat) (List Tk)
  | 0, _, _ => .ok []
  | f + 1, i, r =>
    if r = [] then .ok [⟨5, [], i⟩]
    else if (first r).1 = 0 then lexv f (i + (first r).2.2) (r.drop (first r).2.2)
    else if (first r).1 < 10 then (lexv f (i + (first r).2.2) (r.drop (first r).2.2)).map fun l => ⟨(first r).1, (first r).2.1, i⟩ :: l
    else .error ((first r).1 - 10, i)

theorem getD_ne {r : List Nat} {k x : Nat} (h : r.getD k 0 = x) (hx : x ≠ 0) : k < r.length := by
  rcases Nat.lt_or_ge k r.length with h1 | h1
  · exact h1
  · rw [List.getD_eq_getElem?_getD, List.getElem?_eq_none h1] at h; exact absurd h.symm hx

theorem first_len {r : List Nat} (h0 : r ≠ []) (h : (first r).1 < 10) : 1 ≤ (first r).2.2 ∧ (first r).2.2 ≤ r.length := by
  have hl : 0 < r.length := List.length_pos_iff.2 h0
  have hd : r = r.drop 0 := rfl
  have more : ∀ p : Nat → Bool, p (r.getD 0 0) = true → 1 ≤ runv p r := fun p hp => by
    have := runv_more p r 0 hl hp
    simp only [List.drop_zero] at this; omega
  unfold first at h ⊢
  split at h
  · rename_i h1; rw [if_pos h1]; exact ⟨Nat.le_refl _, hl⟩
  · rename_i h1; rw [if_neg h1]
    split at h
    · rename_i h2; rw [if_pos h2]
      exact ⟨more _ (by rw [h2.1]; rfl), runv_le _ _⟩
    · rename_i h2; rw [if_neg h2]
      split at h
      · rename_i h3; rw [if_pos h3]
        exact ⟨more _ (by unfold isLD; rw [h3]; rfl), runv_le _ _⟩
      · rename_i h3; rw [if_neg h3]
        split at h
        · rename_i h4; rw [if_pos h4]
          split at h
          · omega
          · rename_i h5; rw [if_neg h5]
            exact ⟨more _ h4, runv_le _ _⟩
        · rename_i h4; rw [if_neg h4]
          split at h
          · rename_i h5; rw [if_pos h5]
            split at h
            · rename_i h6; rw [if_pos h6]
              have := getD_ne h6 (by decide)
              exact ⟨Nat.le_add_left 1 _, show runv inText (r.drop 1) + 2 ≤ r.length by omega⟩
            · omega
          · rename_i h5; rw [if_neg h5]
            split at h
            · rename_i h6; rw [if_pos h6]; exact ⟨Nat.le_refl _, hl⟩
            · omega

theorem lexv_more (f g i : Nat) (r : List Nat) (hf : r.length < f) (hg : r.length < g) : lexv f i r = lexv g i r := by
  induction f generalizing g i r with
  | zero => omega
  | succ f ih =>
    cases g with
    | zero => omega
    | succ g =>
      unfold lexv
      by_cases h0 : r = []
      · rw [if_pos h0, if_pos h0]
      · rw [if_neg h0, if_neg h0]
        by_cases h1 : (first r).1 < 10
        · have hl := first_len h0 h1
          have := ih g (i + (first r).2.2) (r.drop (first r).2.2) (by simp; omega) (by simp; omega)
          rw [this]
        · have hz : ¬ (first r).1 = 0 := by omega
          rw [if_neg hz, if_neg hz, if_neg h1, if_neg h1]

/-- The tokens of a text's rest that begins at place i. -/
def toks (i : Nat) (r : List Nat) : Except (Nat × Nat) (List Tk) := lexv (r.length + 1) i r

theorem toks_nil (i : Nat) : toks i [] = .ok [⟨5, [], i⟩] := rfl
theorem toks_gap {i : Nat} {r : List Nat} (h0 : r ≠ []) (h : (first r).1 = 0) : toks i r = toks (i + (first r).2.2) (r.drop (first r).2.2) := by
  have hl := first_len h0 (by omega)
  unfold toks
  rw [lexv, if_neg h0, if_pos h]
  exact lexv_more _ _ _ _ (by simp; omega) (by omega)
theorem toks_tok {i : Nat} {r : List Nat} (h0 : r ≠ []) (h : (first r).1 ≠ 0) (h1 : (first r).1 < 10) : toks i r = (toks (i + (first r).2.2) (r.drop (first r).2.2)).map fun l => ⟨(first r).1, (first r).2.1, i⟩ :: l := by
  have hl := first_len h0 h1
  unfold toks
  rw [lexv, if_neg h0, if_neg h, if_pos h1, lexv_more _ _ _ _ (by simp; omega) (Nat.lt_succ_self _)]
theorem toks_bad {i : Nat} {r : List Nat} (h0 : r ≠ []) (h1 : 10 ≤ (first r).1) : toks i r = .error ((first r).1 - 10, i) := by
  unfold toks
  rw [lexv, if_neg h0, if_neg (by omega), if_neg (by omega)]
end Go.Proofs.Yticgkjcdhmejcaa
