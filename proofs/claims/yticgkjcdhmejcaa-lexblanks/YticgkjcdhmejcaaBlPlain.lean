/- Tokens written anew, with other gaps between them: they are read as they were. Plain lists: no program. -/
import Derived.Test.YticgkjcdhmejcaaLexPlain
import Derived.Test.YticgkjcdhmejcaaLexSkip
namespace Go.Proofs.Yticgkjcdhmejcaa
set_option linter.unusedVariables false
set_option linter.unusedSimpArgs false

/-- What is written of a token. -/
def bodyOf (t : Tk) : List Nat := if t.kind = 3 then 34 :: (t.text ++ [34]) else t.text
/-- The four gaps. -/
def sepv : Nat → List Nat
  | 0 => [32]
  | 1 => [10]
  | 2 => [32, 47, 47, 32, 123, 32, 48, 32, 34, 10]
  | _ => [32, 32, 10, 32]
def outv : List (Nat × Tk) → List Nat
  | [] => []
  | q :: r => sepv q.1 ++ (bodyOf q.2 ++ outv r)
def newToks (i : Nat) : List (Nat × Tk) → List Tk
  | [] => []
  | q :: r => ⟨q.2.kind, q.2.text, i + (sepv q.1).length⟩ :: newToks (i + (sepv q.1).length + (bodyOf q.2).length) r

def GoodT (t : Tk) : Prop :=
  (t.kind = 1 ∧ t.text ≠ [] ∧ isLet (t.text.getD 0 0) = true ∧ ∀ c ∈ t.text, isLD c = true) ∨
  (t.kind = 2 ∧ t.text ≠ [] ∧ (∀ c ∈ t.text, isDig c = true) ∧ t.text.length ≤ 10) ∨
  (t.kind = 3 ∧ ∀ c ∈ t.text, inText c = true) ∨
  (t.kind = 4 ∧ ∃ c, t.text = [c] ∧ isMark c = true)
def GoodL : List Tk → Prop
  | [] => False
  | t :: r => (r = [] ∧ t.kind = 5 ∧ t.text = []) ∨ (GoodT t ∧ GoodL r)

theorem take_all (p : Nat → Bool) (r : List Nat) (n : Nat) (h : n ≤ runv p r) : ∀ c ∈ r.take n, p c = true := by
  intro c hc
  obtain ⟨k, hk, rfl⟩ := List.mem_iff_getElem.1 hc
  have hk' : k < n ∧ k < r.length := by simp at hk; omega
  have := runv_all p r k (by omega)
  simpa [hk'.2] using this

theorem first_good {r : List Nat} {k n i : Nat} {l : List Nat} (h0 : r ≠ []) (h : first r = (k, l, n)) (hk : k ≠ 0) (h10 : k < 10) : GoodT ⟨k, l, i⟩ ∧ (bodyOf ⟨k, l, i⟩).length = n := by
  have hl : 0 < r.length := List.length_pos_iff.2 h0
  have more : ∀ p : Nat → Bool, p (r.getD 0 0) = true → 1 ≤ runv p r := fun p hp => by
    have := runv_more p r 0 hl hp
    simp only [List.drop_zero] at this; omega
  unfold first at h
  split at h
  · cases h; exact absurd rfl hk
  · split at h
    · cases h; exact absurd rfl hk
    · split at h
      · rename_i hL
        injection h with h1 h; injection h with h2 h3
        subst h1 h2 h3
        have hm := more isLD (by unfold isLD; rw [hL]; rfl)
        have hle := runv_le isLD r
        refine ⟨.inl ⟨rfl, ?_, ?_, take_all _ _ _ (Nat.le_refl _)⟩, ?_⟩
        · intro e
          have := congrArg List.length e
          simp only [List.length_take, List.length_nil] at this; omega
        · have : (r.take (runv isLD r)).getD 0 0 = r.getD 0 0 := by
            simp [List.getElem?_take, show 0 < runv isLD r by omega]
          rw [this]; exact hL
        · simp [bodyOf]; omega
      · split at h
        · rename_i hD
          split at h
          · cases h; omega
          · rename_i hlong
            injection h with h1 h; injection h with h2 h3
            subst h1 h2 h3
            have hm := more isDig hD
            have hle := runv_le isDig r
            refine ⟨.inr (.inl ⟨rfl, ?_, take_all _ _ _ (Nat.le_refl _), by simp; omega⟩), ?_⟩
            · intro e
              have := congrArg List.length e
              simp only [List.length_take, List.length_nil] at this; omega
            · simp [bodyOf]; omega
        · split at h
          · split at h
            · rename_i hq
              injection h with h1 h; injection h with h2 h3
              subst h1 h2 h3
              have hle := runv_le inText (r.drop 1)
              refine ⟨.inr (.inr (.inl ⟨rfl, take_all _ _ _ (Nat.le_refl _)⟩)), ?_⟩
              simp only [bodyOf, if_true, List.length_cons, List.length_append, List.length_take, List.length_nil]
              omega
            · cases h; omega
          · split at h
            · rename_i hM
              injection h with h1 h; injection h with h2 h3
              subst h1 h2 h3
              match r, h0 with
              | c :: r, _ => exact ⟨.inr (.inr (.inr ⟨rfl, c, rfl, by simpa using hM⟩)), by simp [bodyOf]⟩
            · cases h; omega

/-- How much is written of tokens. -/
def bodies : List Tk → Nat
  | [] => 0
  | t :: r => (bodyOf t).length + bodies r

theorem lexv_good (f i : Nat) (r : List Nat) (ts : List Tk) (hf : r.length < f) (h : lexv f i r = .ok ts) : GoodL ts ∧ bodies ts ≤ r.length := by
  induction f generalizing i r ts with
  | zero => omega
  | succ f ih =>
    unfold lexv at h
    split at h
    · injection h with h; subst h; exact ⟨.inl ⟨rfl, rfl, rfl⟩, by simp [bodies, bodyOf]⟩
    · rename_i h0
      split at h
      · rename_i hz
        have hl := first_len h0 (by omega)
        have := ih _ _ _ (by simp; omega) h
        exact ⟨this.1, by have := this.2; simp at this; omega⟩
      · rename_i hz
        split at h
        · rename_i h10
          have hl := first_len h0 h10
          rcases hr : lexv f (i + (first r).2.2) (r.drop (first r).2.2) with e | l
          · rw [hr] at h; cases h
          · rw [hr] at h
            injection h with h; subst h
            have h1 := ih _ _ _ (by simp; omega) hr
            have h2 := first_good (k := (first r).1) (l := (first r).2.1) (n := (first r).2.2) (i := i) h0 rfl hz h10
            refine ⟨.inr ⟨h2.1, h1.1⟩, ?_⟩
            have := h1.2
            simp only [bodies, h2.2]
            simp at this; omega
        · cases h
theorem toks_good {i : Nat} {r : List Nat} {ts : List Tk} (h : toks i r = .ok ts) : GoodL ts ∧ bodies ts ≤ r.length := lexv_good _ _ _ _ (Nat.lt_succ_self _) h

theorem runv_app (p : Nat → Bool) (l r : List Nat) (hl : ∀ c ∈ l, p c = true) (hr : p (r.getD 0 0) = false ∨ r = []) : runv p (l ++ r) = l.length := by
  induction l with
  | nil =>
    rcases hr with hr | rfl
    · cases r with
      | nil => rfl
      | cons c r => have : p c = false := by simpa using hr
                    simp [runv, this]
    · rfl
  | cons c l ih => rw [List.cons_append, runv, if_pos (hl c (by simp)), ih fun x hx => hl x (by simp [hx])]; rfl

/-- What stands behind a token's text: a blank or a line feed. -/
def Gapped (r : List Nat) : Prop := r.getD 0 0 = 32 ∨ r.getD 0 0 = 10

theorem let_not {x : Nat} (h : isLet x = true) : isGap x = false ∧ x ≠ 47 := by
  constructor
  · rcases hb : isGap x with _ | _
    · rfl
    · simp [isGap] at hb; rcases hb with rfl | rfl <;> exact absurd h (by decide)
  · rintro rfl; exact absurd h (by decide)
theorem dig_not {x : Nat} (h : isDig x = true) : isGap x = false ∧ x ≠ 47 ∧ isLet x = false := by
  have hb := show 48 ≤ x ∧ x ≤ 57 by simpa [isDig] using h
  refine ⟨?_, by omega, ?_⟩
  · simp [isGap]; omega
  · simp [isLet]; omega
theorem mark_not {x : Nat} (h : isMark x = true) : isGap x = false ∧ x ≠ 47 ∧ isLet x = false ∧ isDig x = false ∧ x ≠ 34 := by
  simp [isMark] at h
  rcases h with ((((((rfl | rfl) | rfl) | rfl) | rfl) | rfl) | rfl) | rfl <;> decide

theorem getD_app0 {l r : List Nat} (h : l ≠ []) : (l ++ r).getD 0 0 = l.getD 0 0 := by
  cases l with
  | nil => exact absurd rfl h
  | cons c l => rfl

theorem first_body {t : Tk} (h : GoodT t) {r : List Nat} (hg : Gapped r) : first (bodyOf t ++ r) = (t.kind, t.text, (bodyOf t).length) := by
  obtain ⟨k, l, i⟩ := t
  have ng : ∀ p : Nat → Bool, p 32 = false → p 10 = false → p (r.getD 0 0) = false := fun p h1 h2 => by
    rcases hg with e | e <;> rw [e] <;> assumption
  rcases h with ⟨hk, hne, hL, hall⟩ | ⟨hk, hne, hall, hlen⟩ | ⟨hk, hall⟩ | ⟨hk, c, hl, hM⟩
  · simp only at hk hne hL hall
    subst hk
    have hb : bodyOf ⟨1, l, i⟩ = l := rfl
    rw [hb]
    have hr : runv isLD (l ++ r) = l.length := runv_app isLD l r hall (.inl (ng isLD (by decide) (by decide)))
    have hn := let_not hL
    unfold first
    rw [getD_app0 hne, if_neg (by rw [hn.1]; decide), if_neg (fun e => hn.2 e.1), if_pos hL, hr, List.take_left]
  · simp only at hk hne hall hlen
    subst hk
    have hb : bodyOf ⟨2, l, i⟩ = l := rfl
    rw [hb]
    have hr : runv isDig (l ++ r) = l.length := runv_app isDig l r hall (.inl (ng isDig (by decide) (by decide)))
    have hD : isDig (l.getD 0 0) = true := hall _ (by
      cases l with
      | nil => exact absurd rfl hne
      | cons c l => simp)
    have hn := dig_not hD
    unfold first
    rw [getD_app0 hne, if_neg (by rw [hn.1]; decide), if_neg (fun e => hn.2.1 e.1), if_neg (by rw [hn.2.2]; decide), if_pos hD, hr, if_neg (by omega), List.take_left]
  · simp only at hk hall
    subst hk
    have hb : bodyOf ⟨3, l, i⟩ = 34 :: (l ++ [34]) := rfl
    rw [hb]
    have hr : runv inText (l ++ (34 :: r)) = l.length := runv_app inText l (34 :: r) hall (.inl (show inText 34 = false by decide))
    have e0 : 34 :: (l ++ [34]) ++ r = 34 :: (l ++ (34 :: r)) := by simp
    have hlen : (34 :: (l ++ [34])).length = l.length + 2 := by simp
    rw [e0, hlen]
    have g0 : (34 :: (l ++ (34 :: r))).getD 0 0 = 34 := rfl
    have d1 : (34 :: (l ++ (34 :: r))).drop 1 = l ++ (34 :: r) := rfl
    have g1 : (34 :: (l ++ (34 :: r))).getD (l.length + 1) 0 = 34 := by simp
    unfold first
    rw [g0, d1, hr, g1, if_neg (by decide), if_neg (fun e => absurd e.1 (by decide)), if_neg (by decide), if_neg (by decide), if_pos rfl, if_pos rfl, List.take_left]
  · simp only at hk hl
    subst hk hl
    have hb : bodyOf ⟨4, [c], i⟩ = [c] := rfl
    rw [hb]
    have hn := mark_not hM
    unfold first
    rw [show ([c] ++ r).getD 0 0 = c from rfl, if_neg (by rw [hn.1]; decide), if_neg (fun e => hn.2.1 e.1), if_neg (by rw [hn.2.2.1]; decide), if_neg (by rw [hn.2.2.2.1]; decide), if_neg hn.2.2.2.2, if_pos hM]
    rfl

theorem toks_gap1 (i c : Nat) (r : List Nat) (h : isGap c = true) : toks i (c :: r) = toks (i + 1) r := by
  have hf : first (c :: r) = (0, [], 1) := by unfold first; rw [if_pos (by simpa using h)]
  rw [toks_gap (by simp) (by rw [hf]), hf]; rfl

theorem sep_skip (k i : Nat) (r : List Nat) : toks i (sepv k ++ r) = toks (i + (sepv k).length) r := by
  unfold sepv
  split
  · exact toks_gap1 _ _ _ (by decide)
  · exact toks_gap1 _ _ _ (by decide)
  · show toks i (32 :: (47 :: 47 :: 32 :: 123 :: 32 :: 48 :: 32 :: 34 :: 10 :: r)) = _
    rw [toks_gap1 _ _ _ (by decide), toks_remark _ rfl rfl]
    have hr : runv inLine (47 :: 47 :: 32 :: 123 :: 32 :: 48 :: 32 :: 34 :: 10 :: r) = 8 := by simp [runv, inLine]
    rw [hr]
    show toks (i + 1 + 8) (10 :: r) = _
    rw [toks_gap1 _ _ _ (by decide)]; rfl
  · show toks i (32 :: 32 :: 10 :: 32 :: r) = _
    rw [toks_gap1 _ _ _ (by decide), toks_gap1 _ _ _ (by decide), toks_gap1 _ _ _ (by decide), toks_gap1 _ _ _ (by decide)]; rfl

theorem outv_gapped {ps : List (Nat × Tk)} (h : ps ≠ []) : Gapped (outv ps) := by
  cases ps with
  | nil => exact absurd rfl h
  | cons q r =>
    unfold outv Gapped sepv
    split
    · exact .inl rfl
    · exact .inr rfl
    · exact .inl rfl
    · exact .inl rfl

theorem relex (ps : List (Nat × Tk)) (i : Nat) (h : GoodL (ps.map Prod.snd)) : toks i (outv ps) = .ok (newToks i ps) := by
  induction ps generalizing i with
  | nil => exact absurd h id
  | cons q r ih =>
    rw [outv, sep_skip]
    rcases h with ⟨hr, h5, ht⟩ | ⟨hg, hr⟩
    · have hr' : r = [] := by simpa using hr
      subst hr'
      have hb : bodyOf q.2 = [] := by unfold bodyOf; rw [if_neg (by rw [h5]; decide), ht]
      rw [hb]
      show toks (i + (sepv q.1).length) [] = _
      rw [toks_nil, newToks, newToks, h5, ht]
    · have hne : r ≠ [] := by rintro rfl; exact hr
      have hf := first_body hg (outv_gapped hne)
      have hk : q.2.kind ≠ 0 ∧ q.2.kind < 10 := by
        rcases hg with ⟨hk, _⟩ | ⟨hk, _⟩ | ⟨hk, _⟩ | ⟨hk, _⟩ <;> omega
      have hb0 : bodyOf q.2 ++ outv r ≠ [] := by
        intro e
        have hx := outv_gapped hne
        rw [(List.append_eq_nil_iff.1 e).2] at hx
        rcases hx with hx | hx <;> simp at hx
      rw [toks_tok hb0 (by rw [hf]; exact hk.1) (by rw [hf]; exact hk.2), hf]
      simp only [List.drop_left]
      rw [ih _ hr, newToks]
      rfl

theorem outv_length (ps : List (Nat × Tk)) : (outv ps).length ≤ ps.length * 10 + bodies (ps.map Prod.snd) := by
  induction ps with
  | nil => simp [outv]
  | cons q r ih =>
    have hs : (sepv q.1).length ≤ 10 := by unfold sepv; split <;> simp
    simp only [outv, List.length_append, List.map_cons, bodies, List.length_cons]
    omega
theorem newToks_length (ps : List (Nat × Tk)) (i : Nat) : (newToks i ps).length = ps.length := by
  induction ps generalizing i with
  | nil => rfl
  | cons q r ih => simp [newToks, ih]
end Go.Proofs.Yticgkjcdhmejcaa
