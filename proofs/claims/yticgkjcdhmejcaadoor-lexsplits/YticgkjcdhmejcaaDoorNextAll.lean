/- Next, whole. -/
import Derived.Test.YticgkjcdhmejcaaDoorNextB
namespace Go.Proofs.YticgkjcdhmejcaaDoor
open Go.RowKit
set_option linter.unusedVariables false

theorem kept1 (w : World) (o : Obj) : Kept w.heap.size w (w.alloc o) := Kept.alloc (Kept.refl _ _) (Nat.le_refl _) _
theorem or_nil (w : World) (a : Option Addr) (c : Nat) : ReadsOr w (.slice a 0 c) [] := .inl ⟨rfl, _, _, rfl⟩

set_option maxHeartbeats 2000000 in
/-- The array ends with the tag: nothing is behind it. -/
theorem next_edge {w : World} {b off cap n f : Nat} {bs : List Nat} (h : Full w b off cap bs) (ht : tagv bs = some (n, f, cap)) (hc : cap ≤ bs.length) (hc10 : cap ≤ 10) :
    Calls Tryd.prog 21 #[.slice (some ⟨b, off, none⟩) bs.length cap] w fun e w' => e = .returned noPiece ∧ Kept w.heap.size w w' := by
  have HT : Hid (tagv bs = some (n, f, cap)) := ht
  have hl : bs.length = cap := by have := h.fits; omega
  have hor : ReadsOr w (.slice (some ⟨b, off, none⟩) cap cap) bs := by have := h.or; rw [hl] at this; exact this
  rw [hl]
  clear ht hl hc h
  by_cases h0 : f = 0
  · subst h0
    go_enter Tryd.func21, Tryd.ntmps21
    go_wp2_with fail
    refine (tag_some (hor.kept (kept1 _ _)) HT.out).mono ?_
    rintro e w1 ⟨rfl, rfl⟩
    go_wp2_with fail
    refine (get_or_none (or_nil _ _ _) rfl).mono ?_
    rintro e w2 ⟨rfl, rfl⟩
    go_wp2
    exact bodyPost_ret (v := noPiece) (by simp [results, Tryd.results21, go_sem, noPiece]) rfl ⟨rfl, alloc2 _ _ _⟩
  · by_cases h1 : f = 1
    · subst h1
      go_enter Tryd.func21, Tryd.ntmps21
      go_wp2_with fail
      refine (tag_some (hor.kept (kept1 _ _)) HT.out).mono ?_
      rintro e w1 ⟨rfl, rfl⟩
      go_wp2_with fail
      refine (short_at _ _ _ 8 8 _ rfl (by omega)).mono ?_
      rintro e w2 ⟨rfl, rfl⟩
      go_wp2
      exact bodyPost_ret (v := noPiece) (by simp [results, Tryd.results21, go_sem, noPiece]) rfl ⟨rfl, alloc2 _ _ _⟩
    · by_cases h5 : f = 5
      · subst h5
        go_enter Tryd.func21, Tryd.ntmps21
        go_wp2_with fail
        refine (tag_some (hor.kept (kept1 _ _)) HT.out).mono ?_
        rintro e w1 ⟨rfl, rfl⟩
        go_wp2_with fail
        refine (short_at _ _ _ 4 4 _ rfl (by omega)).mono ?_
        rintro e w2 ⟨rfl, rfl⟩
        go_wp2
        exact bodyPost_ret (v := noPiece) (by simp [results, Tryd.results21, go_sem, noPiece]) rfl ⟨rfl, alloc2 _ _ _⟩
      · by_cases h2 : f = 2
        · subst h2
          go_enter Tryd.func21, Tryd.ntmps21
          go_wp2_with fail
          refine (tag_some (hor.kept (kept1 _ _)) HT.out).mono ?_
          rintro e w1 ⟨rfl, rfl⟩
          go_wp2_with fail
          refine (bytes_none (or_nil _ _ _) rfl).mono ?_
          rintro e w2 ⟨rfl, rfl⟩
          go_wp2
          exact bodyPost_ret (v := noPiece) (by simp [results, Tryd.results21, go_sem, noPiece]) rfl ⟨rfl, alloc2 _ _ _⟩
        · have e0 : ((f : Int) == 0) = false := by simpa using h0
          have e1 : ((f : Int) == 1) = false := by simp; omega
          have e5 : ((f : Int) == 5) = false := by simp; omega
          have e2 : ((f : Int) == 2) = false := by simp; omega
          clear h0 h1 h5 h2
          go_enter Tryd.func21, Tryd.ntmps21
          go_wp2_with fail
          refine (tag_some (hor.kept (kept1 _ _)) HT.out).mono ?_
          rintro e w1 ⟨rfl, rfl⟩
          go_wp2
          exact bodyPost_ret (v := noPiece) (by simp [results, Tryd.results21, go_sem, noPiece]) rfl ⟨rfl, alloc2 _ _ _⟩

/-- What Next returns of a piece. -/
def pcRes (p : Pc) (vb : Value) : Value := .tuple #[.agg #[.int .i64 (p.number : Int), .int .i64 (p.form : Int), .int .u64 (p.num : Int), vb, .int .i64 (p.long : Int)], .nilIface]

/-- What holds behind Next. -/
def NextPost (w : World) (bs : List Nat) (e : Ending) (w' : World) : Prop :=
  (nextv bs = none ∧ e = .returned noPiece ∧ Kept w.heap.size w w') ∨
  ∃ p a c, nextv bs = some p ∧ e = .returned (pcRes p (.slice a p.bytes.length c)) ∧ ReadsOr w' (.slice a p.bytes.length c) p.bytes ∧ New w.heap.size (.slice a p.bytes.length c) ∧ Kept w.heap.size w w'

theorem nextv_of {bs : List Nat} {n f c : Nat} (ht : tagv bs = some (n, f, c)) : nextv bs = (bodyv f (bs.drop c)).map fun x => ⟨n, f, x.1, x.2.1, c + x.2.2⟩ := by
  unfold nextv
  rw [ht]
  simp only
  rcases bodyv f (bs.drop c) with _ | ⟨x, y, z⟩ <;> rfl

theorem next_any {w : World} {a : Option Addr} {cap : Nat} {bs : List Nat} (h : ReadsOr w (.slice a bs.length cap) bs) (hlen : bs.length ≤ 1000000) :
    Calls Tryd.prog 21 #[.slice a bs.length cap] w (NextPost w bs) := by
  rcases ht : tagv bs with _ | ⟨n, f, c⟩
  · refine (next_tagless h ht).mono fun e w' hp => .inl ⟨?_, hp⟩
    unfold nextv; rw [ht]
  · have hbd := tagv_bound h.lt ht
    have hnv := nextv_of ht
    obtain ⟨b, off, rfl, hF⟩ : ∃ b off, a = some ⟨b, off, none⟩ ∧ Full w b off cap bs := by
      rcases h with ⟨rfl, _⟩ | ⟨b, off, cap', h, h0, hb, h1, h2⟩
      · cases ht
      · have hs := h.shape
        injection hs with e1 _ e3
        subst e1 e3
        exact ⟨b, off, rfl, h, h0, hb, h1, h2, hlen⟩
    clear h
    have hc : c ≤ bs.length := hbd.2.1
    have hc10 : c ≤ 10 := hbd.2.2.1
    have hdl : ∀ x ∈ bs.drop c, x < 256 := fun x hx => hF.reads.lt x (List.mem_of_mem_drop hx)
    by_cases hcc : cap = c
    · subst hcc
      refine (next_edge hF ht hc hc10).mono fun e w' hp => .inl ⟨?_, hp⟩
      have hd : bs.drop cap = [] := by rw [List.drop_eq_nil_iff]; have := hF.fits; omega
      rw [hnv, hd]
      have : bodyv f [] = none := by
        unfold bodyv
        split
        · rfl
        · split
          · rfl
          · split
            · rfl
            · split <;> rfl
      rw [this]; rfl
    · by_cases h0 : f = 0
      · subst h0
        rcases hg : getv (bs.drop c) 0 with _ | ⟨v, k⟩
        · refine (next_f0_none hF ht hcc hc hc10 hg).mono fun e w' hp => .inl ⟨?_, hp⟩
          rw [hnv]; unfold bodyv; rw [if_pos rfl, hg]; rfl
        · have hb2 := getv_bound (by omega) hdl hg
          refine (next_f0_some hF ht hcc hc hc10 v k hg (by omega)).mono fun e w' hp => .inr ⟨⟨n, 0, v, [], c + k⟩, none, 0, ?_, hp.1, or_nil _ _ _, New.nil _ _ _, hp.2⟩
          rw [hnv]; unfold bodyv; rw [if_pos rfl, hg]; rfl
      · by_cases h1 : f = 1
        · subst h1
          by_cases h8 : 8 ≤ (bs.drop c).length
          · refine (next_f1_some hF ht hcc hc hc10 h8).mono fun e w' hp => .inr ⟨⟨n, 1, le 8 (bs.drop c), [], c + 8⟩, none, 0, ?_, hp.1, or_nil _ _ _, New.nil _ _ _, hp.2⟩
            rw [hnv]; unfold bodyv; rw [if_neg (by decide), if_pos rfl, if_pos h8]; rfl
          · refine (next_f1_none hF ht hcc hc hc10 (by omega)).mono fun e w' hp => .inl ⟨?_, hp⟩
            rw [hnv]; unfold bodyv; rw [if_neg (by decide), if_pos rfl, if_neg h8]; rfl
        · by_cases h5 : f = 5
          · subst h5
            by_cases h8 : 4 ≤ (bs.drop c).length
            · refine (next_f5_some hF ht hcc hc hc10 h8).mono fun e w' hp => .inr ⟨⟨n, 5, le 4 (bs.drop c), [], c + 4⟩, none, 0, ?_, hp.1, or_nil _ _ _, New.nil _ _ _, hp.2⟩
              rw [hnv]; unfold bodyv; rw [if_neg (by decide), if_neg (by decide), if_pos rfl, if_pos h8]; rfl
            · refine (next_f5_none hF ht hcc hc hc10 (by omega)).mono fun e w' hp => .inl ⟨?_, hp⟩
              rw [hnv]; unfold bodyv; rw [if_neg (by decide), if_neg (by decide), if_pos rfl, if_neg h8]; rfl
          · by_cases h2 : f = 2
            · subst h2
              have hbv : bodyv 2 (bs.drop c) = (match getv (bs.drop c) 0 with
                | none => none
                | some (n, k) => if n ≤ (bs.drop c).length - k then some (0, ((bs.drop c).drop k).take n, k + n) else none) := by
                unfold bodyv; rw [if_neg (by decide), if_neg (by decide), if_neg (by decide), if_pos rfl]
                rcases getv (bs.drop c) 0 with _ | ⟨x, y⟩ <;> rfl
              rcases hg : getv (bs.drop c) 0 with _ | ⟨u, k⟩
              · refine (next_f2_none hF ht hcc hc hc10 hg).mono fun e w' hp => .inl ⟨?_, hp⟩
                rw [hnv, hbv, hg]; rfl
              · have hb2 := getv_bound (by omega) hdl hg
                by_cases hu : u ≤ (bs.drop c).length - k
                · have hlu : (((bs.drop c).drop k).take u).length = u := by simp; simp at hu; omega
                  refine (next_f2_good hF ht hcc hc hc10 u k hg hu (by omega)).mono ?_
                  rintro e w' ⟨a, c', rfl, hr, hn, hk⟩
                  refine .inr ⟨⟨n, 2, 0, ((bs.drop c).drop k).take u, c + (k + u)⟩, a, c', ?_, ?_, by simp only [hlu]; exact hr, by simp only [hlu]; exact hn, hk⟩
                  · rw [hnv, hbv, hg]; simp only; rw [if_pos hu]; rfl
                  · simp only [pcRes, hlu]; rfl
                · refine (next_f2_long hF ht hcc hc hc10 u k hg (by omega)).mono fun e w' hp => .inl ⟨?_, hp⟩
                  rw [hnv, hbv, hg]; simp only; rw [if_neg hu]; rfl
            · refine (next_other hF ht hcc hc hc10 h0 h1 h5 h2).mono fun e w' hp => .inl ⟨?_, hp⟩
              rw [hnv]; unfold bodyv; rw [if_neg h0, if_neg h1, if_neg h5, if_neg h2]; rfl
end Go.Proofs.YticgkjcdhmejcaaDoor
