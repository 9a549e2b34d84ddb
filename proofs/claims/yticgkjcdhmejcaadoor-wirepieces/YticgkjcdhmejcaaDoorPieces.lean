/- Pieces, as plain lists of bytes have them: no program. -/
import Derived.Test.YticgkjcdhmejcaaDoorPlain
namespace Go.Proofs.YticgkjcdhmejcaaDoor

/-- A piece. -/
structure Pc where
  number : Nat
  form : Nat
  num : Nat
  bytes : List Nat
  long : Nat

/-- Bytes as a number, the least one first. -/
def le : Nat → List Nat → Nat
  | 0, _ => 0
  | _ + 1, [] => 0
  | k + 1, b :: r => b + 256 * le k r

/-- A tag: the number, the form, how many bytes. -/
def tagv (bs : List Nat) : Option (Nat × Nat × Nat) :=
  match getv bs 0 with
  | none => none
  | some (t, c) => if 1 ≤ t / 8 ∧ t / 8 ≤ 536870911 then some (t / 8, t % 8, c) else none

/-- What is behind a tag: num, bytes, how many bytes. -/
def bodyv (form : Nat) (r : List Nat) : Option (Nat × List Nat × Nat) :=
  if form = 0 then (getv r 0).map fun p => (p.1, [], p.2)
  else if form = 1 then (if 8 ≤ r.length then some (le 8 r, [], 8) else none)
  else if form = 5 then (if 4 ≤ r.length then some (le 4 r, [], 4) else none)
  else if form = 2 then
    match getv r 0 with
    | none => none
    | some (n, k) => if n ≤ r.length - k then some (0, (r.drop k).take n, k + n) else none
  else none

/-- The first piece. -/
def nextv (bs : List Nat) : Option Pc :=
  match tagv bs with
  | none => none
  | some (number, form, c) =>
    match bodyv form (bs.drop c) with
    | none => none
    | some (num, bytes, k) => some ⟨number, form, num, bytes, c + k⟩

/-- All pieces. -/
def splitv : Nat → List Nat → Option (List Pc)
  | 0, _ => none
  | f + 1, bs => if bs = [] then some [] else
    match nextv bs with
    | none => none
    | some p => (splitv f (bs.drop p.long)).map fun l => p :: l

theorem getv_bound {bs : List Nat} {i v c : Nat} (hi : i ≤ 9) (hb : ∀ x ∈ bs, x < 256) (h : getv bs i = some (v, c)) : 1 ≤ c ∧ c ≤ bs.length ∧ c + i ≤ 10 ∧ v < 2 ^ (64 - 7 * i) := by
  induction bs generalizing i v c with
  | nil => cases h
  | cons b r ih =>
    rw [getv] at h
    have hb0 := hb b (by simp)
    split at h
    · cases h
    · rename_i h9
      split at h
      · rename_i h128
        injection h with h; injection h with h1 h2
        subst h1 h2
        refine ⟨by omega, by simp, by omega, ?_⟩
        by_cases hi9 : i = 9
        · subst hi9; simp; omega
        · have : 2 ^ 7 ≤ 2 ^ (64 - 7 * i) := Nat.pow_le_pow_right (by decide) (by omega)
          omega
      · rename_i h128
        have hi8 : i ≤ 8 := by omega
        rcases hg : getv r (i + 1) with _ | ⟨v', c'⟩
        · rw [hg] at h; cases h
        · rw [hg] at h
          simp only [Option.map_some] at h
          injection h with h; injection h with h1 h2
          obtain ⟨a1, a2, a3, a4⟩ := ih (by omega) (fun x hx => hb x (by simp [hx])) hg
          subst h1 h2
          refine ⟨by omega, by simp; omega, by omega, ?_⟩
          have e : 64 - 7 * i = (64 - 7 * (i + 1)) + 7 := by omega
          rw [e, Nat.pow_add]
          have : b % 128 < 128 := by omega
          omega

theorem getv_app {bs : List Nat} {i v c : Nat} (x : List Nat) (h : getv bs i = some (v, c)) : getv (bs ++ x) i = some (v, c) := by
  induction bs generalizing i v c with
  | nil => cases h
  | cons b r ih =>
    rw [getv] at h
    rw [List.cons_append, getv]
    split at h
    · cases h
    · rename_i h9
      rw [if_neg h9]
      split at h
      · rename_i h128; rw [if_pos h128]; exact h
      · rename_i h128
        rw [if_neg h128]
        rcases hg : getv r (i + 1) with _ | ⟨v', c'⟩
        · rw [hg] at h; cases h
        · rw [hg] at h; rw [ih hg]; exact h

theorem le_app (k : Nat) (r x : List Nat) (h : k ≤ r.length) : le k (r ++ x) = le k r := by
  induction k generalizing r with
  | zero => rfl
  | succ k ih =>
    cases r with
    | nil => simp at h
    | cons b r => simp only [List.cons_append, le]; rw [ih r (by simp at h; omega)]

theorem le_lt (k : Nat) (r : List Nat) (h : ∀ x ∈ r, x < 256) : le k r < 256 ^ k := by
  induction k generalizing r with
  | zero => simp [le]
  | succ k ih =>
    cases r with
    | nil => simp only [le]; exact Nat.pow_pos (by decide)
    | cons b r =>
      have := ih r (fun x hx => h x (by simp [hx]))
      have hb := h b (by simp)
      simp only [le]; rw [Nat.pow_succ]; omega

theorem tagv_bound {bs : List Nat} {n f c : Nat} (hb : ∀ x ∈ bs, x < 256) (h : tagv bs = some (n, f, c)) : 1 ≤ c ∧ c ≤ bs.length ∧ c ≤ 10 ∧ 1 ≤ n ∧ n ≤ 536870911 ∧ f < 8 := by
  unfold tagv at h
  split at h
  · cases h
  · rename_i t c' hg
    split at h
    · injection h with h; injection h with h1 h; injection h with h2 h3
      subst h1 h2 h3
      have := getv_bound (by omega) hb hg
      omega
    · cases h

theorem tagv_app {bs : List Nat} {p : Nat × Nat × Nat} (x : List Nat) (h : tagv bs = some p) : tagv (bs ++ x) = some p := by
  unfold tagv at h ⊢
  split at h
  · cases h
  · rename_i t c' hg
    rw [getv_app x hg]; exact h

theorem bodyv_bound {f : Nat} {r : List Nat} {n k : Nat} {l : List Nat} (hb : ∀ x ∈ r, x < 256) (h : bodyv f r = some (n, l, k)) : k ≤ r.length ∧ n < 2 ^ 64 ∧ l.length ≤ k ∧ ∀ x ∈ l, x < 256 := by
  unfold bodyv at h
  split at h
  · rcases hg : getv r 0 with _ | ⟨v, c⟩
    · rw [hg] at h; cases h
    · rw [hg] at h
      injection h with h; injection h with h1 h; injection h with h2 h3
      subst h1 h2 h3
      have := getv_bound (by omega) hb hg
      exact ⟨this.2.1, this.2.2.2, by simp, by intro x hx; cases hx⟩
  · split at h
    · split at h
      · rename_i h8
        injection h with h; injection h with h1 h; injection h with h2 h3
        subst h1 h2 h3
        exact ⟨h8, by have := le_lt 8 r hb; omega, by simp, by intro x hx; cases hx⟩
      · cases h
    · split at h
      · split at h
        · rename_i h8
          injection h with h; injection h with h1 h; injection h with h2 h3
          subst h1 h2 h3
          exact ⟨h8, by have := le_lt 4 r hb; omega, by simp, by intro x hx; cases hx⟩
        · cases h
      · split at h
        · split at h
          · cases h
          · rename_i n' k' hg
            split at h
            · rename_i hle
              injection h with h; injection h with h1 h; injection h with h2 h3
              subst h1 h2 h3
              have := getv_bound (by omega) hb hg
              refine ⟨by omega, by omega, by simp; omega, fun x hx => hb x (List.mem_of_mem_drop (List.mem_of_mem_take hx))⟩
            · cases h
        · cases h

theorem bodyv_app {f : Nat} {r : List Nat} {p : Nat × List Nat × Nat} (x : List Nat) (hb : ∀ x ∈ r, x < 256) (h : bodyv f r = some p) : bodyv f (r ++ x) = some p := by
  unfold bodyv at h ⊢
  split at h
  · rename_i h0
    rw [if_pos h0]
    rcases hg : getv r 0 with _ | ⟨v, c⟩
    · rw [hg] at h; cases h
    · rw [hg] at h; rw [getv_app x hg]; exact h
  · rename_i h0
    rw [if_neg h0]
    split at h
    · rename_i h1
      rw [if_pos h1]
      split at h
      · rename_i h8
        rw [if_pos (by simp; omega), le_app _ _ _ h8]; exact h
      · cases h
    · rename_i h1
      rw [if_neg h1]
      split at h
      · rename_i h5
        rw [if_pos h5]
        split at h
        · rename_i h8
          rw [if_pos (by simp; omega), le_app _ _ _ h8]; exact h
        · cases h
      · rename_i h5
        rw [if_neg h5]
        split at h
        · rename_i h2
          rw [if_pos h2]
          split at h
          · cases h
          · rename_i n' k' hg
            have hk := getv_bound (by omega) hb hg
            rw [getv_app x hg]
            simp only
            split at h
            · rename_i hle
              rw [if_pos (by simp; omega), List.drop_append_of_le_length (by omega), List.take_append_of_le_length (by simp; omega)]
              exact h
            · cases h
        · cases h

theorem nextv_bound {bs : List Nat} {p : Pc} (hb : ∀ x ∈ bs, x < 256) (h : nextv bs = some p) : 1 ≤ p.long ∧ p.long ≤ bs.length ∧ p.num < 2 ^ 64 ∧ p.bytes.length ≤ p.long ∧ (∀ x ∈ p.bytes, x < 256) ∧ 1 ≤ p.number ∧ p.number ≤ 536870911 ∧ p.form < 8 := by
  unfold nextv at h
  split at h
  · cases h
  · rename_i n f c ht
    split at h
    · cases h
    · rename_i num l k hbv
      injection h with h
      subst h
      have a := tagv_bound hb ht
      have b := bodyv_bound (fun x hx => hb x (List.mem_of_mem_drop hx)) hbv
      have hl := b.1
      rw [List.length_drop] at hl
      exact ⟨by simp; omega, by simp; omega, b.2.1, by simp; omega, b.2.2.2, a.2.2.2.1, a.2.2.2.2.1, a.2.2.2.2.2⟩

theorem nextv_app {bs : List Nat} {p : Pc} (x : List Nat) (hb : ∀ x ∈ bs, x < 256) (h : nextv bs = some p) : nextv (bs ++ x) = some p := by
  unfold nextv at h ⊢
  split at h
  · cases h
  · rename_i n f c ht
    have a := tagv_bound hb ht
    rw [tagv_app x ht]
    simp only
    split at h
    · cases h
    · rename_i num l k hbv
      rw [List.drop_append_of_le_length (by omega), bodyv_app x (fun x hx => hb x (List.mem_of_mem_drop hx)) hbv]
      exact h

theorem splitv_more {f : Nat} {bs : List Nat} (hb : ∀ x ∈ bs, x < 256) (h : bs.length < f) (g : Nat) (hg : bs.length < g) : splitv f bs = splitv g bs := by
  induction f generalizing bs g with
  | zero => omega
  | succ f ih =>
    cases g with
    | zero => omega
    | succ g =>
      unfold splitv
      by_cases h0 : bs = []
      · rw [if_pos h0, if_pos h0]
      · rw [if_neg h0, if_neg h0]
        rcases hn : nextv bs with _ | p
        · rfl
        · have hp := nextv_bound hb hn
          simp only
          rw [ih (fun x hx => hb x (List.mem_of_mem_drop hx)) (by simp; omega) g (by simp; omega)]

/-- All pieces of bytes. -/
def pieces (bs : List Nat) : Option (List Pc) := splitv (bs.length + 1) bs

theorem pieces_nil : pieces [] = some [] := rfl
theorem pieces_bad {bs : List Nat} (h0 : bs ≠ []) (h : nextv bs = none) : pieces bs = none := by
  unfold pieces splitv; rw [if_neg h0, h]
theorem pieces_cons {bs : List Nat} {p : Pc} (hb : ∀ x ∈ bs, x < 256) (h0 : bs ≠ []) (h : nextv bs = some p) : pieces bs = (pieces (bs.drop p.long)).map fun l => p :: l := by
  have hp := nextv_bound hb h
  unfold pieces
  rw [splitv, if_neg h0, h]
  simp only
  rw [splitv_more (fun x hx => hb x (List.mem_of_mem_drop hx)) (by simp; omega) ((bs.drop p.long).length + 1) (by omega)]

theorem pieces_app {a b : List Nat} {x y : List Pc} (ha : ∀ x ∈ a, x < 256) (hb : ∀ x ∈ b, x < 256) (h1 : pieces a = some x) (h2 : pieces b = some y) : pieces (a ++ b) = some (x ++ y) := by
  generalize hn : a.length = n
  induction n using Nat.strongRecOn generalizing a x with
  | _ n ih =>
    by_cases h0 : a = []
    · subst h0
      rw [pieces_nil] at h1
      injection h1 with h1
      subst h1
      exact h2
    · rcases hx : nextv a with _ | p
      · rw [pieces_bad h0 hx] at h1; cases h1
      · have hp := nextv_bound ha hx
        rw [pieces_cons ha h0 hx] at h1
        rcases hd : pieces (a.drop p.long) with _ | l
        · rw [hd] at h1; cases h1
        · rw [hd] at h1
          injection h1 with h1
          subst h1
          have hab : ∀ x ∈ a ++ b, x < 256 := fun x hx => by
            rcases List.mem_append.1 hx with h | h
            · exact ha x h
            · exact hb x h
          rw [pieces_cons hab (by simp [h0]) (nextv_app b ha hx), List.drop_append_of_le_length hp.2.1]
          rw [ih (a.drop p.long).length (by simp; omega) (fun x hx => ha x (List.mem_of_mem_drop hx)) hd rfl]
          rfl

/-- All bytes belong to pieces. -/
def total : List Pc → Nat
  | [] => 0
  | p :: l => p.long + total l

theorem pieces_total {a : List Nat} {x : List Pc} (ha : ∀ x ∈ a, x < 256) (h : pieces a = some x) : total x = a.length ∧ x.length ≤ a.length := by
  generalize hn : a.length = n
  induction n using Nat.strongRecOn generalizing a x with
  | _ n ih =>
    by_cases h0 : a = []
    · subst h0
      rw [pieces_nil] at h
      injection h with h
      subst h
      simp at hn
      subst hn
      exact ⟨rfl, by simp⟩
    · rcases hx : nextv a with _ | p
      · rw [pieces_bad h0 hx] at h; cases h
      · have hp := nextv_bound ha hx
        rw [pieces_cons ha h0 hx] at h
        rcases hd : pieces (a.drop p.long) with _ | l
        · rw [hd] at h; cases h
        · rw [hd] at h
          injection h with h
          subst h
          have := ih (a.drop p.long).length (by simp; omega) (fun x hx => ha x (List.mem_of_mem_drop hx)) hd rfl
          simp only [total, List.length_cons, List.length_drop] at this ⊢
          omega
end Go.Proofs.YticgkjcdhmejcaaDoor
