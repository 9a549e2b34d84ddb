/- Next, where a length and so many bytes stand behind the tag. -/
import Derived.Test.YticgkjcdhmejcaaDoorNext
namespace Go.Proofs.YticgkjcdhmejcaaDoor
open Go.RowKit
set_option linter.unusedVariables false

theorem bytes_or {w : World} {a : Option Addr} {len cap n k : Nat} {bs : List Nat} (h : ReadsOr w (.slice a len cap) bs) (hl : bs.length = len) (hlen : len ≤ 1000000) (hg : getv bs 0 = some (n, k)) :
    Calls Tryd.prog 33 #[.slice a len cap] w fun e w' =>
      (bs.length - k < n ∧ e = .returned (.tuple #[.slice none 0 0, .int .i64 0, .iface 24 (.int .i64 3)]) ∧ w' = w) ∨
      (n ≤ bs.length - k ∧ ∃ a c, e = .returned (.tuple #[.slice a n c, .int .i64 ((k + n : Nat) : Int), .nilIface]) ∧ ReadsOr w' (.slice a n c) ((bs.drop k).take n) ∧ New w.heap.size (.slice a n c) ∧ Kept w.heap.size w w') := by
  subst hl
  rcases h with ⟨rfl, _⟩ | ⟨b, off, cap', h, h0, hb, h1, h2⟩
  · cases hg
  · have hs := h.shape
    injection hs with e1 _ e3
    subst e1 e3
    exact bytes_some b off cap bs w h hb hlen h1 h2 h0 n k hg
theorem bytes_bad {w : World} {a : Option Addr} {len cap n k : Nat} {bs : List Nat} (h : ReadsOr w (.slice a len cap) bs) (hl : bs.length = len) (hlen : len ≤ 1000000) (hg : getv bs 0 = some (n, k)) (hn : bs.length - k < n) :
    Calls Tryd.prog 33 #[.slice a len cap] w fun e w' => e = .returned (.tuple #[.slice none 0 0, .int .i64 0, .iface 24 (.int .i64 3)]) ∧ w' = w := by
  refine (bytes_or h hl hlen hg).mono ?_
  rintro e w' (⟨_, h1⟩ | ⟨h1, _⟩)
  · exact h1
  · omega
theorem bytes_good {w : World} {a : Option Addr} {len cap n k : Nat} {bs : List Nat} (h : ReadsOr w (.slice a len cap) bs) (hl : bs.length = len) (hlen : len ≤ 1000000) (hg : getv bs 0 = some (n, k)) (hn : n ≤ bs.length - k) :
    Calls Tryd.prog 33 #[.slice a len cap] w fun e w' => ∃ a c, e = .returned (.tuple #[.slice a n c, .int .i64 ((k + n : Nat) : Int), .nilIface]) ∧ ReadsOr w' (.slice a n c) ((bs.drop k).take n) ∧ New w.heap.size (.slice a n c) ∧ Kept w.heap.size w w' := by
  refine (bytes_or h hl hlen hg).mono ?_
  rintro e w' (⟨h1, _⟩ | ⟨_, h1⟩)
  · omega
  · exact h1

/-- Two new blocks, behind a call that keeps them. -/
theorem two_blocks {w w2 : World} {X Y : Array Value} {T : TypeId} (hk : Kept ((w.alloc (.cells X T)).alloc (.cells Y T)).heap.size ((w.alloc (.cells X T)).alloc (.cells Y T)) w2) :
    (∀ j, w2.cell? ⟨w.heap.size, j, none⟩ = X[j]?) ∧ (∀ j, w2.frozen? ⟨w.heap.size, j, none⟩ = false) ∧ (∀ j, w2.cell? ⟨w.heap.size + 1, j, none⟩ = Y[j]?) ∧ (∀ j, w2.frozen? ⟨w.heap.size + 1, j, none⟩ = false) ∧ w.heap.size + 2 ≤ w2.heap.size := by
  have hs : ((w.alloc (.cells X T)).alloc (.cells Y T)).heap.size = w.heap.size + 1 + 1 := by simp
  have h1 : (w.alloc (.cells X T)).heap.size = w.heap.size + 1 := by simp
  have k1 : Kept (w.heap.size + 1) (w.alloc (.cells X T)) ((w.alloc (.cells X T)).alloc (.cells Y T)) := Kept.alloc (Kept.refl _ _) (by simp) _
  have hz := hk.size
  rw [hs] at hk hz
  refine ⟨fun j => ?_, fun j => ?_, fun j => ?_, fun j => ?_, by omega⟩
  · rw [hk.cell (p := ⟨w.heap.size, j, none⟩) (by show w.heap.size < _; omega), k1.cell (p := ⟨w.heap.size, j, none⟩) (by show w.heap.size < _; omega)]
    exact World.cell?_alloc_new w _ _ j
  · rw [hk.frozen (p := ⟨w.heap.size, j, none⟩) (by show w.heap.size < _; omega), k1.frozen (p := ⟨w.heap.size, j, none⟩) (by show w.heap.size < _; omega)]
    exact World.frozen?_alloc_new w _ _ j
  · rw [hk.cell (p := ⟨w.heap.size + 1, j, none⟩) (by show w.heap.size + 1 < _; omega), ← h1]
    exact World.cell?_alloc_new _ _ _ j
  · rw [hk.frozen (p := ⟨w.heap.size + 1, j, none⟩) (by show w.heap.size + 1 < _; omega), ← h1]
    exact World.frozen?_alloc_new _ _ _ j

theorem ReadsOr.setCell {w : World} {v : Value} {bs : List Nat} {B : Nat} (h : ReadsOr w v bs) (hn : New B v) {p : Addr} (hp : p.block < B) {u : Value} : ReadsOr (w.setCell p u) v bs := by
  rcases h with h | ⟨b, off, cap, h, h0, hb, h1⟩
  · exact .inl h
  · have hne : b ≠ p.block := by
      have hs := h.shape
      have := hn ⟨b, off, none⟩ (bs.length - 1) cap (by rw [hs]; congr 1; omega)
      simp only at this; omega
    refine .inr ⟨b, off, cap, ⟨h.shape, h.lt, h.le, fun j hj => ?_⟩, h0, by simpa [World.setCell] using hb, h1⟩
    rw [← h.cell j hj]
    exact World.cell?_of_block (a := ⟨b, off + j, none⟩) (Below.heap_setCell _ _ _ _ hne)

set_option maxHeartbeats 1000000 in
theorem next_f2_none {w : World} {b off cap n c : Nat} {bs : List Nat} (h : Full w b off cap bs) (ht : tagv bs = some (n, 2, c)) (hcc : ¬ cap = c) (hc : c ≤ bs.length) (hc10 : c ≤ 10) (hg : getv (bs.drop c) 0 = none) :
    Calls Tryd.prog 21 #[.slice (some ⟨b, off, none⟩) bs.length cap] w fun e w' => e = .returned noPiece ∧ Kept w.heap.size w w' := by
  have HT : Hid (tagv bs = some (n, 2, c)) := ht
  have HG : Hid (getv (bs.drop c) 0 = none) := hg
  have hcap := h.fits
  have hsmall := h.small
  have hmax := h.most
  unfold maxLen at hmax
  clear ht hg
  go_enter Tryd.func21, Tryd.ntmps21
  go_wp2_with fail
  refine (tag_some (h.or.kept (Kept.alloc (Kept.refl _ _) (Nat.le_refl _) _)) HT.out).mono ?_
  rintro e w1 ⟨rfl, rfl⟩
  go_wp2_with fail
  refine (bytes_none ((h.behind hc).kept (alloc2 _ _ _)) HG.out).mono ?_
  rintro e w2 ⟨rfl, rfl⟩
  go_wp2
  exact bodyPost_ret (v := noPiece) (by simp [results, Tryd.results21, go_sem, noPiece]) rfl ⟨rfl, alloc2 _ _ _⟩

set_option maxHeartbeats 1000000 in
theorem next_f2_long {w : World} {b off cap n c : Nat} {bs : List Nat} (h : Full w b off cap bs) (ht : tagv bs = some (n, 2, c)) (hcc : ¬ cap = c) (hc : c ≤ bs.length) (hc10 : c ≤ 10) (u k : Nat) (hg : getv (bs.drop c) 0 = some (u, k)) (hu : (bs.drop c).length - k < u) :
    Calls Tryd.prog 21 #[.slice (some ⟨b, off, none⟩) bs.length cap] w fun e w' => e = .returned noPiece ∧ Kept w.heap.size w w' := by
  have HT : Hid (tagv bs = some (n, 2, c)) := ht
  have HG : Hid (getv (bs.drop c) 0 = some (u, k)) := hg
  have HU : Hid ((bs.drop c).length - k < u) := hu
  have hcap := h.fits
  have hsmall := h.small
  have hmax := h.most
  unfold maxLen at hmax
  clear ht hg hu
  go_enter Tryd.func21, Tryd.ntmps21
  go_wp2_with fail
  refine (tag_some (h.or.kept (Kept.alloc (Kept.refl _ _) (Nat.le_refl _) _)) HT.out).mono ?_
  rintro e w1 ⟨rfl, rfl⟩
  go_wp2_with fail
  refine (bytes_bad ((h.behind hc).kept (alloc2 _ _ _)) (by simp) (by omega) HG.out HU.out).mono ?_
  rintro e w2 ⟨rfl, rfl⟩
  go_wp2
  exact bodyPost_ret (v := noPiece) (by simp [results, Tryd.results21, go_sem, noPiece]) rfl ⟨rfl, alloc2 _ _ _⟩

set_option maxHeartbeats 2000000 in
theorem next_f2_good {w : World} {b off cap n c : Nat} {bs : List Nat} (h : Full w b off cap bs) (ht : tagv bs = some (n, 2, c)) (hcc : ¬ cap = c) (hc : c ≤ bs.length) (hc10 : c ≤ 10) (u k : Nat) (hg : getv (bs.drop c) 0 = some (u, k)) (hu : u ≤ (bs.drop c).length - k) (hk : k ≤ 10) :
    Calls Tryd.prog 21 #[.slice (some ⟨b, off, none⟩) bs.length cap] w fun e w' => ∃ a c', e = .returned (.tuple #[.agg #[.int .i64 (n : Int), .int .i64 2, .int .u64 0, .slice a u c', .int .i64 ((c + (k + u) : Nat) : Int)], .nilIface]) ∧
      ReadsOr w' (.slice a u c') (((bs.drop c).drop k).take u) ∧ New w.heap.size (.slice a u c') ∧ Kept w.heap.size w w' := by
  have HT : Hid (tagv bs = some (n, 2, c)) := ht
  have HG : Hid (getv (bs.drop c) 0 = some (u, k)) := hg
  have HU : Hid (u ≤ (bs.drop c).length - k) := hu
  have hus : u ≤ 1000000 := by have := h.small; simp at hu; omega
  have hcap := h.fits
  have hsmall := h.small
  have hmax := h.most
  unfold maxLen at hmax
  clear ht hg hu
  go_enter Tryd.func21, Tryd.ntmps21
  go_wp2_with fail
  refine (tag_some (h.or.kept (Kept.alloc (Kept.refl _ _) (Nat.le_refl _) _)) HT.out).mono ?_
  rintro e w1 ⟨rfl, rfl⟩
  go_wp2_with fail
  refine (bytes_good ((h.behind hc).kept (alloc2 _ _ _)) (by simp) (by omega) HG.out HU.out).mono ?_
  rintro e w2 ⟨a, c', rfl, hr, hnew, hk2⟩
  obtain ⟨q, qf, p, pf, hsz⟩ := two_blocks hk2
  have hr2 : ReadsOr (((((((w2.setCell ⟨w.heap.size + 1, 3, none⟩ (.slice a u c')).setCell ⟨w.heap.size + 1, 4, none⟩ (.int .i64 ((c : Int) + ((k : Int) + (u : Int))))).setCell ⟨w.heap.size, 0, none⟩ (.int .i64 (n : Int))).setCell ⟨w.heap.size, 1, none⟩ (.int .i64 2)).setCell
      ⟨w.heap.size, 2, none⟩ (.int .u64 0)).setCell ⟨w.heap.size, 3, none⟩ (.slice a u c')).setCell ⟨w.heap.size, 4, none⟩ (.int .i64 ((c : Int) + ((k : Int) + (u : Int))))) (.slice a u c') (((bs.drop c).drop k).take u) := by
    have hn2 : New (w.heap.size + 2) (.slice a u c') := hnew.mono (by simp)
    refine ReadsOr.setCell (ReadsOr.setCell (ReadsOr.setCell (ReadsOr.setCell (ReadsOr.setCell (ReadsOr.setCell (ReadsOr.setCell hr hn2 ?_) hn2 ?_) hn2 ?_) hn2 ?_) hn2 ?_) hn2 ?_) hn2 ?_ <;> (simp; try omega)
  have hk3 : Kept w.heap.size w (((((((w2.setCell ⟨w.heap.size + 1, 3, none⟩ (.slice a u c')).setCell ⟨w.heap.size + 1, 4, none⟩ (.int .i64 ((c : Int) + ((k : Int) + (u : Int))))).setCell ⟨w.heap.size, 0, none⟩ (.int .i64 (n : Int))).setCell ⟨w.heap.size, 1, none⟩ (.int .i64 2)).setCell
      ⟨w.heap.size, 2, none⟩ (.int .u64 0)).setCell ⟨w.heap.size, 3, none⟩ (.slice a u c')).setCell ⟨w.heap.size, 4, none⟩ (.int .i64 ((c : Int) + ((k : Int) + (u : Int))))) := by
    refine Kept.setCell (Kept.setCell (Kept.setCell (Kept.setCell (Kept.setCell (Kept.setCell (Kept.setCell ((alloc2 _ _ _).trans (hk2.mono (by simp; omega))) ?_ _) ?_ _) ?_ _) ?_ _) ?_ _) ?_ _) ?_ _ <;> simp
  have hnew2 : New w.heap.size (.slice a u c') := hnew.mono (by simp; omega)
  clear hk2 hr hnew
  go_wp2
  exact bodyPost_ret (v := .tuple #[.agg #[.int .i64 (n : Int), .int .i64 2, .int .u64 0, .slice a u c', .int .i64 ((c : Int) + ((k : Int) + (u : Int)))], .nilIface]) (by simp [results, Tryd.results21, go_sem, q]) rfl ⟨a, c', by simp, hr2, hnew2, hk3⟩
end Go.Proofs.YticgkjcdhmejcaaDoor
