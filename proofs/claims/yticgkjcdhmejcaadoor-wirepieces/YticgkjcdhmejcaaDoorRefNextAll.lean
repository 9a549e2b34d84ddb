/- The document's own answer: the first piece, whatever it is. -/
import Derived.Test.YticgkjcdhmejcaaDoorRefNextC
namespace Go.Proofs.YticgkjcdhmejcaaDoor
open Go.RowKit
set_option linter.unusedVariables false

/-- What the document's Next answers. -/
def RNextPost (w : World) (bs : List Nat) (e : Ending) (w' : World) : Prop :=
  (nextv bs = none ∧ e = .returned rnoPiece ∧ Kept w.heap.size w w') ∨
  ∃ p sb sa, nextv bs = some p ∧ e = .returned (rpcRes p sb sa) ∧ Spells sb p.bytes ∧ sa.size = p.long ∧ Kept w.heap.size w w'

theorem rpost_bad {a : Array Value} {w : World} {bs : List Nat} (h : nextv bs = none) (C : Calls Tryd.prog 20 a w fun e w' => e = .returned rnoPiece ∧ Kept w.heap.size w w') : Calls Tryd.prog 20 a w (RNextPost w bs) :=
  C.mono fun e w' h1 => .inl ⟨h, h1.1, h1.2⟩
theorem rpost_good {a : Array Value} {w : World} {bs : List Nat} {p : Pc} (h : nextv bs = some p) (C : Calls Tryd.prog 20 a w fun e w' => ∃ sb sa, e = .returned (rpcRes p sb sa) ∧ Spells sb p.bytes ∧ sa.size = p.long ∧ Kept w.heap.size w w') : Calls Tryd.prog 20 a w (RNextPost w bs) :=
  C.mono fun e w' ⟨sb, sa, h1, h2, h3, h4⟩ => .inr ⟨p, sb, sa, h, h1, h2, h3, h4⟩

theorem nextv_at {bs : List Nat} {t c : Nat} (hg : getv bs 0 = some (t, c)) (h1 : 1 ≤ t / 8) (h2 : t / 8 ≤ 536870911) :
    nextv bs = (bodyv (t % 8) (bs.drop c)).map fun q => ⟨t / 8, t % 8, q.1, q.2.1, c + q.2.2⟩ := by
  unfold nextv tagv
  rw [hg]
  simp only
  rw [if_pos ⟨h1, h2⟩]
  simp only
  rcases bodyv (t % 8) (bs.drop c) with _ | ⟨a, b, k⟩ <;> rfl

theorem rnext_any {s : ByteArray} {bs : List Nat} (w : World) (hs : Spells s bs) (hl : bs.length ≤ 100000) :
    Calls Tryd.prog 20 #[.string s] w (RNextPost w bs) := by
  rcases hg : getv bs 0 with _ | ⟨t, c⟩
  · exact rpost_bad (by unfold nextv tagv; rw [hg]) (rnext_tagless1 w hs hl hg)
  · have hb := getv_bound (by omega) hs.lt hg
    by_cases h1 : 1 ≤ t / 8
    · by_cases h2 : t / 8 ≤ 536870911
      · have hn := nextv_at hg h1 h2
        have hlen : (bs.drop c).length = bs.length - c := by simp
        have hd : ∀ x ∈ bs.drop c, x < 256 := fun x hx => hs.lt x (List.mem_of_mem_drop hx)
        have h8 : t % 8 = 0 ∨ t % 8 = 1 ∨ t % 8 = 2 ∨ t % 8 = 3 ∨ t % 8 = 4 ∨ t % 8 = 5 ∨ t % 8 = 6 ∨ t % 8 = 7 := by omega
        rcases h8 with h8 | h8 | h8 | h8 | h8 | h8 | h8 | h8
        · rcases hg2 : getv (bs.drop c) 0 with _ | ⟨v, k⟩
          · exact rpost_bad (by rw [hn, h8]; simp [bodyv, hg2]) (rnext_f0_none w hs hl t c hg h1 h2 hb.2.1 hb.2.2.1 h8 hg2)
          · have hb2 := getv_bound (by omega) hd hg2
            exact rpost_good (p := ⟨t / 8, 0, v, [], c + k⟩) (by rw [hn, h8]; simp [bodyv, hg2]) (rnext_f0_some w hs hl t c hg h1 h2 hb.2.1 hb.2.2.1 h8 v k hg2 hb2.2.2.1 (by omega))
        · by_cases h : 8 ≤ bs.length - c
          · exact rpost_good (p := ⟨t / 8, 1, le 8 (bs.drop c), [], c + 8⟩) (by rw [hn, h8]; simp [bodyv, hlen, h]) (rnext_f1_some w hs hl t c hg h1 h2 hb.2.1 hb.2.2.1 h8 h)
          · exact rpost_bad (by rw [hn, h8]; simp [bodyv, hlen, h]) (rnext_f1_short w hs hl t c hg h1 h2 hb.2.1 hb.2.2.1 h8 (by omega))
        · rcases hg2 : getv (bs.drop c) 0 with _ | ⟨v, k⟩
          · exact rpost_bad (by rw [hn, h8]; simp [bodyv, hg2]) (rnext_f2_none w hs hl t c hg h1 h2 hb.2.1 hb.2.2.1 h8 hg2)
          · have hb2 := getv_bound (by omega) hd hg2
            by_cases h : v ≤ bs.length - c - k
            · exact rpost_good (p := ⟨t / 8, 2, 0, ((bs.drop c).drop k).take v, c + k + v⟩) (by rw [hn, h8]; simp only [bodyv, hg2, hlen, if_neg (show ¬ 2 = 0 by decide), if_neg (show ¬ 2 = 1 by decide), if_neg (show ¬ 2 = 5 by decide), if_true, if_pos h, Option.map_some, Nat.add_assoc]) (rnext_f2_some w hs hl t c hg h1 h2 hb.2.1 hb.2.2.1 h8 v k hg2 hb2.2.2.1 (by omega) h)
            · exact rpost_bad (by rw [hn, h8]; simp [bodyv, hg2, hlen, h]) (rnext_f2_long w hs hl t c hg h1 h2 hb.2.1 hb.2.2.1 h8 v k hg2 hb2.2.2.1 (by omega) (by omega))
        · exact rpost_bad (by rw [hn, h8]; simp [bodyv]) (rnext_f3 w hs hl t c hg h1 h2 hb.2.1 hb.2.2.1 h8)
        · exact rpost_bad (by rw [hn, h8]; simp [bodyv]) (rnext_f4 w hs hl t c hg h1 h2 hb.2.1 hb.2.2.1 h8)
        · by_cases h : 4 ≤ bs.length - c
          · exact rpost_good (p := ⟨t / 8, 5, le 4 (bs.drop c), [], c + 4⟩) (by rw [hn, h8]; simp [bodyv, hlen, h]) (rnext_f5_some w hs hl t c hg h1 h2 hb.2.1 hb.2.2.1 h8 h)
          · exact rpost_bad (by rw [hn, h8]; simp [bodyv, hlen, h]) (rnext_f5_short w hs hl t c hg h1 h2 hb.2.1 hb.2.2.1 h8 (by omega))
        · exact rpost_bad (by rw [hn, h8]; simp [bodyv]) (rnext_f6 w hs hl t c hg h1 h2 hb.2.1 hb.2.2.1 h8)
        · exact rpost_bad (by rw [hn, h8]; simp [bodyv]) (rnext_f7 w hs hl t c hg h1 h2 hb.2.1 hb.2.2.1 h8)
      · exact rpost_bad (by unfold nextv tagv; rw [hg]; simp only; rw [if_neg (fun h => h2 h.2)]) (rnext_high w hs hl t c hg h1 (by omega))
    · exact rpost_bad (by unfold nextv tagv; rw [hg]; simp only; rw [if_neg (fun h => h1 h.1)]) (rnext_low w hs hl t c hg (by omega))
end Go.Proofs.YticgkjcdhmejcaaDoor
