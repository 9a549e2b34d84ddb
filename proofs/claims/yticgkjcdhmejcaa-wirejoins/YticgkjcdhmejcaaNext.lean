/- Next: the first piece. -/
import Derived.Test.YticgkjcdhmejcaaClone
namespace Go.Proofs.Yticgkjcdhmejcaa
open Go.RowKit
set_option linter.unusedVariables false

theorem tag_none {w : World} {v : Value} {bs : List Nat} (h : ReadsOr w v bs) (ht : tagv bs = none) :
    Calls Try.prog 25 #[v] w fun e w' => e = .returned (.tuple #[.int .i64 0, .int .i64 0, .int .i64 0, .iface 57 (.int .i64 3)]) ∧ w' = w := by
  have := tag_any h
  rw [ht] at this
  exact this
theorem tag_some {w : World} {v : Value} {bs : List Nat} {n f c : Nat} (h : ReadsOr w v bs) (ht : tagv bs = some (n, f, c)) :
    Calls Try.prog 25 #[v] w fun e w' => e = .returned (.tuple #[.int .i64 (n : Int), .int .i64 (f : Int), .int .i64 (c : Int), .nilIface]) ∧ w' = w := by
  have := tag_any h
  rw [ht] at this
  exact this

/-- A piece's cells. -/
def pcCells (p : Pc) (vb : Value) : List Value := [.int .i64 (p.number : Int), .int .i64 (p.form : Int), .int .u64 (p.num : Int), vb, .int .i64 (p.long : Int)]
/-- No piece, and ErrForm. -/
def noPiece : Value := .tuple #[.agg #[.int .i64 0, .int .i64 0, .int .u64 0, .slice none 0 0, .int .i64 0], .iface 57 (.int .i64 3)]

set_option maxHeartbeats 1000000 in
theorem next_tagless {w : World} {v : Value} {bs : List Nat} (h : ReadsOr w v bs) (ht : tagv bs = none) :
    Calls Try.prog 20 #[v] w fun e w' => e = .returned noPiece ∧ Kept w.heap.size w w' := by
  have HT : Hid (tagv bs = none) := ht
  clear ht
  go_enter Try.func20, Try.ntmps20
  go_wp2_with fail
  refine (tag_none (h.kept (Kept.alloc (Kept.refl _ _) (Nat.le_refl _) _)) HT.out).mono ?_
  rintro e w1 ⟨rfl, rfl⟩
  go_wp2
  exact bodyPost_ret (v := noPiece) (by simp [results, Try.results20, go_sem, noPiece]) rfl ⟨rfl, Kept.alloc (Kept.refl _ _) (Nat.le_refl _) _⟩

/-- What came in, not empty. -/
structure Full (w : World) (b off cap : Nat) (bs : List Nat) : Prop where
  reads : Reads w (.slice (some ⟨b, off, none⟩) bs.length cap) b off cap bs
  pos : 0 < bs.length
  lt : b < w.heap.size
  fits : bs.length ≤ cap
  most : cap ≤ maxLen
  small : bs.length ≤ 1000000

theorem Full.or {w : World} {b off cap : Nat} {bs : List Nat} (h : Full w b off cap bs) : ReadsOr w (.slice (some ⟨b, off, none⟩) bs.length cap) bs := .inr ⟨b, off, cap, h.reads, h.pos, h.lt, h.fits, h.most⟩
theorem Full.kept {w w' : World} {b off cap : Nat} {bs : List Nat} (h : Full w b off cap bs) (k : Kept w.heap.size w w') : Full w' b off cap bs :=
  ⟨h.reads.kept k h.lt, h.pos, by have := h.lt; have := k.size; omega, h.fits, h.most, h.small⟩
theorem Full.behind {w : World} {b off cap c : Nat} {bs : List Nat} (h : Full w b off cap bs) (hc : c ≤ bs.length) : ReadsOr w (.slice (some ⟨b, off + c, none⟩) (bs.length - c) (cap - c)) (bs.drop c) := by
  have hcap := h.fits
  have hmax := h.most
  rcases Nat.eq_zero_or_pos (bs.length - c) with h0 | h0
  · rw [h0]; exact .inl ⟨by rw [List.drop_eq_nil_iff]; omega, _, _, rfl⟩
  · have e : (bs.drop c).take (bs.length - c) = bs.drop c := by rw [List.take_of_length_le]; simp
    have := h.reads.cut (cap' := cap - c) (k := c) (n := bs.length - c) (by omega)
    rw [e] at this
    exact .inr ⟨b, off + c, cap - c, this, by simp; omega, h.lt, by simp; omega, by omega⟩

theorem alloc2 (w : World) (o1 o2 : Obj) : Kept w.heap.size w ((w.alloc o1).alloc o2) := Kept.alloc (Kept.alloc (Kept.refl _ _) (Nat.le_refl _) _) (by simp) _

set_option maxHeartbeats 1000000 in
theorem next_f0_none {w : World} {b off cap n c : Nat} {bs : List Nat} (h : Full w b off cap bs) (ht : tagv bs = some (n, 0, c)) (hcc : ¬ cap = c) (hc : c ≤ bs.length) (hc10 : c ≤ 10) (hg : getv (bs.drop c) 0 = none) :
    Calls Try.prog 20 #[.slice (some ⟨b, off, none⟩) bs.length cap] w fun e w' => e = .returned noPiece ∧ Kept w.heap.size w w' := by
  have HT : Hid (tagv bs = some (n, 0, c)) := ht
  have hcap := h.fits
  have hsmall := h.small
  have hmax := h.most
  unfold maxLen at hmax
  clear ht
  have HG : Hid (getv (bs.drop c) 0 = none) := hg
  clear hg
  go_enter Try.func20, Try.ntmps20
  go_wp2_with fail
  refine (tag_some (h.or.kept (Kept.alloc (Kept.refl _ _) (Nat.le_refl _) _)) HT.out).mono ?_
  rintro e w1 ⟨rfl, rfl⟩
  go_wp2_with fail
  refine (get_or_none ((h.behind hc).kept (alloc2 _ _ _)) HG.out).mono ?_
  rintro e w2 ⟨rfl, rfl⟩
  go_wp2
  exact bodyPost_ret (v := noPiece) (by simp [results, Try.results20, go_sem, noPiece]) rfl ⟨rfl, alloc2 _ _ _⟩

set_option maxHeartbeats 1000000 in
theorem next_f0_some {w : World} {b off cap n c : Nat} {bs : List Nat} (h : Full w b off cap bs) (ht : tagv bs = some (n, 0, c)) (hcc : ¬ cap = c) (hc : c ≤ bs.length) (hc10 : c ≤ 10) (v k : Nat) (hg : getv (bs.drop c) 0 = some (v, k)) (hk : k ≤ 10) :
    Calls Try.prog 20 #[.slice (some ⟨b, off, none⟩) bs.length cap] w fun e w' => e = .returned (.tuple #[.agg #[.int .i64 (n : Int), .int .i64 0, .int .u64 (v : Int), .slice none 0 0, .int .i64 ((c + k : Nat) : Int)], .nilIface]) ∧ Kept w.heap.size w w' := by
  have HT : Hid (tagv bs = some (n, 0, c)) := ht
  have hcap := h.fits
  have hsmall := h.small
  have hmax := h.most
  unfold maxLen at hmax
  clear ht
  have HG : Hid (getv (bs.drop c) 0 = some (v, k)) := hg
  clear hg
  go_enter Try.func20, Try.ntmps20
  go_wp2_with fail
  refine (tag_some (h.or.kept (Kept.alloc (Kept.refl _ _) (Nat.le_refl _) _)) HT.out).mono ?_
  rintro e w1 ⟨rfl, rfl⟩
  go_wp2_with fail
  refine (get_or_some ((h.behind hc).kept (alloc2 _ _ _)) HG.out).mono ?_
  rintro e w2 ⟨rfl, rfl⟩
  go_wp2
  exact bodyPost_ret (v := .tuple #[.agg #[.int .i64 (n : Int), .int .i64 0, .int .u64 (v : Int), .slice none 0 0, .int .i64 ((c : Int) + (k : Int))], .nilIface]) (by simp [results, Try.results20, go_sem]) rfl ⟨by simp, alloc2 _ _ _⟩

theorem short_at (a : Option Addr) (len cap k : Nat) (x : Int) (w : World) (hx : x = (k : Int)) (h : len < k) :
    Calls Try.prog 26 #[.slice a len cap, .int .i64 x] w fun e w' => e = .returned (.tuple #[.int .u64 0, .int .i64 0, .iface 57 (.int .i64 3)]) ∧ w' = w := by
  subst hx; exact fixed_short a len cap k w h
theorem long_at {w : World} {a : Option Addr} {len cap k : Nat} {bs : List Nat} {x : Int} (h : ReadsOr w (.slice a len cap) bs) (hx : x = (k : Int)) (hl : bs.length = len) (h0 : 0 < k) (hk : k ≤ len) (h8 : k ≤ 8) :
    Calls Try.prog 26 #[.slice a len cap, .int .i64 x] w fun e w' => e = .returned (.tuple #[.int .u64 (le k bs : Int), .int .i64 x, .nilIface]) ∧ w' = w := by
  subst hx hl
  rcases h with ⟨rfl, _⟩ | ⟨b, off, cap', h, _, _, _, _⟩
  · simp at hk; omega
  · have hs := h.shape
    injection hs with h1 _ h3
    subst h1 h3
    exact fixed_long b off cap k bs w h hk h8

set_option maxHeartbeats 1000000 in
theorem next_f1_none {w : World} {b off cap n c : Nat} {bs : List Nat} (h : Full w b off cap bs) (ht : tagv bs = some (n, 1, c)) (hcc : ¬ cap = c) (hc : c ≤ bs.length) (hc10 : c ≤ 10) (hg : (bs.drop c).length < 8) :
    Calls Try.prog 20 #[.slice (some ⟨b, off, none⟩) bs.length cap] w fun e w' => e = .returned noPiece ∧ Kept w.heap.size w w' := by
  have HT : Hid (tagv bs = some (n, 1, c)) := ht
  have hcap := h.fits
  have hsmall := h.small
  have hmax := h.most
  unfold maxLen at hmax
  clear ht
  have hg' : bs.length - c < 8 := by simpa using hg
  clear hg
  go_enter Try.func20, Try.ntmps20
  go_wp2_with fail
  refine (tag_some (h.or.kept (Kept.alloc (Kept.refl _ _) (Nat.le_refl _) _)) HT.out).mono ?_
  rintro e w1 ⟨rfl, rfl⟩
  go_wp2_with fail
  refine (short_at _ _ _ 8 8 _ rfl hg').mono ?_
  rintro e w2 ⟨rfl, rfl⟩
  go_wp2
  exact bodyPost_ret (v := noPiece) (by simp [results, Try.results20, go_sem, noPiece]) rfl ⟨rfl, alloc2 _ _ _⟩

set_option maxHeartbeats 1000000 in
theorem next_f1_some {w : World} {b off cap n c : Nat} {bs : List Nat} (h : Full w b off cap bs) (ht : tagv bs = some (n, 1, c)) (hcc : ¬ cap = c) (hc : c ≤ bs.length) (hc10 : c ≤ 10) (hg : 8 ≤ (bs.drop c).length) :
    Calls Try.prog 20 #[.slice (some ⟨b, off, none⟩) bs.length cap] w fun e w' => e = .returned (.tuple #[.agg #[.int .i64 (n : Int), .int .i64 1, .int .u64 ((le 8 (bs.drop c) : Nat) : Int), .slice none 0 0, .int .i64 ((c + 8 : Nat) : Int)], .nilIface]) ∧ Kept w.heap.size w w' := by
  have HT : Hid (tagv bs = some (n, 1, c)) := ht
  have hcap := h.fits
  have hsmall := h.small
  have hmax := h.most
  unfold maxLen at hmax
  clear ht
  have hg' : 8 ≤ bs.length - c := by simpa using hg
  clear hg
  go_enter Try.func20, Try.ntmps20
  go_wp2_with fail
  refine (tag_some (h.or.kept (Kept.alloc (Kept.refl _ _) (Nat.le_refl _) _)) HT.out).mono ?_
  rintro e w1 ⟨rfl, rfl⟩
  go_wp2_with fail
  refine (long_at ((h.behind hc).kept (alloc2 _ _ _)) (k := 8) rfl (by simp) (by omega) hg' (by omega)).mono ?_
  rintro e w2 ⟨rfl, rfl⟩
  go_wp2
  exact bodyPost_ret (v := .tuple #[.agg #[.int .i64 (n : Int), .int .i64 1, .int .u64 ((le 8 (bs.drop c) : Nat) : Int), .slice none 0 0, .int .i64 ((c : Int) + 8)], .nilIface]) (by simp [results, Try.results20, go_sem]) rfl ⟨by simp, alloc2 _ _ _⟩

set_option maxHeartbeats 1000000 in
theorem next_f5_none {w : World} {b off cap n c : Nat} {bs : List Nat} (h : Full w b off cap bs) (ht : tagv bs = some (n, 5, c)) (hcc : ¬ cap = c) (hc : c ≤ bs.length) (hc10 : c ≤ 10) (hg : (bs.drop c).length < 4) :
    Calls Try.prog 20 #[.slice (some ⟨b, off, none⟩) bs.length cap] w fun e w' => e = .returned noPiece ∧ Kept w.heap.size w w' := by
  have HT : Hid (tagv bs = some (n, 5, c)) := ht
  have hcap := h.fits
  have hsmall := h.small
  have hmax := h.most
  unfold maxLen at hmax
  clear ht
  have hg' : bs.length - c < 4 := by simpa using hg
  clear hg
  go_enter Try.func20, Try.ntmps20
  go_wp2_with fail
  refine (tag_some (h.or.kept (Kept.alloc (Kept.refl _ _) (Nat.le_refl _) _)) HT.out).mono ?_
  rintro e w1 ⟨rfl, rfl⟩
  go_wp2_with fail
  refine (short_at _ _ _ 4 4 _ rfl hg').mono ?_
  rintro e w2 ⟨rfl, rfl⟩
  go_wp2
  exact bodyPost_ret (v := noPiece) (by simp [results, Try.results20, go_sem, noPiece]) rfl ⟨rfl, alloc2 _ _ _⟩

set_option maxHeartbeats 1000000 in
theorem next_f5_some {w : World} {b off cap n c : Nat} {bs : List Nat} (h : Full w b off cap bs) (ht : tagv bs = some (n, 5, c)) (hcc : ¬ cap = c) (hc : c ≤ bs.length) (hc10 : c ≤ 10) (hg : 4 ≤ (bs.drop c).length) :
    Calls Try.prog 20 #[.slice (some ⟨b, off, none⟩) bs.length cap] w fun e w' => e = .returned (.tuple #[.agg #[.int .i64 (n : Int), .int .i64 5, .int .u64 ((le 4 (bs.drop c) : Nat) : Int), .slice none 0 0, .int .i64 ((c + 4 : Nat) : Int)], .nilIface]) ∧ Kept w.heap.size w w' := by
  have HT : Hid (tagv bs = some (n, 5, c)) := ht
  have hcap := h.fits
  have hsmall := h.small
  have hmax := h.most
  unfold maxLen at hmax
  clear ht
  have hg' : 4 ≤ bs.length - c := by simpa using hg
  clear hg
  go_enter Try.func20, Try.ntmps20
  go_wp2_with fail
  refine (tag_some (h.or.kept (Kept.alloc (Kept.refl _ _) (Nat.le_refl _) _)) HT.out).mono ?_
  rintro e w1 ⟨rfl, rfl⟩
  go_wp2_with fail
  refine (long_at ((h.behind hc).kept (alloc2 _ _ _)) (k := 4) rfl (by simp) (by omega) hg' (by omega)).mono ?_
  rintro e w2 ⟨rfl, rfl⟩
  go_wp2
  exact bodyPost_ret (v := .tuple #[.agg #[.int .i64 (n : Int), .int .i64 5, .int .u64 ((le 4 (bs.drop c) : Nat) : Int), .slice none 0 0, .int .i64 ((c : Int) + 4)], .nilIface]) (by simp [results, Try.results20, go_sem]) rfl ⟨by simp, alloc2 _ _ _⟩

set_option maxHeartbeats 1000000 in
theorem next_other {w : World} {b off cap n c f : Nat} {bs : List Nat} (h : Full w b off cap bs) (ht : tagv bs = some (n, f, c)) (hcc : ¬ cap = c) (hc : c ≤ bs.length) (hc10 : c ≤ 10) (h0 : ¬ f = 0) (h1 : ¬ f = 1) (h5 : ¬ f = 5) (h2 : ¬ f = 2) :
    Calls Try.prog 20 #[.slice (some ⟨b, off, none⟩) bs.length cap] w fun e w' => e = .returned noPiece ∧ Kept w.heap.size w w' := by
  have HT : Hid (tagv bs = some (n, f, c)) := ht
  have hcap := h.fits
  have hsmall := h.small
  have hmax := h.most
  unfold maxLen at hmax
  clear ht
  have e0 : ((f : Int) == 0) = false := by simpa using h0
  have e1 : ((f : Int) == 1) = false := by simp; omega
  have e5 : ((f : Int) == 5) = false := by simp; omega
  have e2 : ((f : Int) == 2) = false := by simp; omega
  clear h0 h1 h5 h2
  go_enter Try.func20, Try.ntmps20
  go_wp2_with fail
  refine (tag_some (h.or.kept (Kept.alloc (Kept.refl _ _) (Nat.le_refl _) _)) HT.out).mono ?_
  rintro e w1 ⟨rfl, rfl⟩
  go_wp2
  exact bodyPost_ret (v := noPiece) (by simp [results, Try.results20, go_sem, noPiece]) rfl ⟨rfl, alloc2 _ _ _⟩

end Go.Proofs.Yticgkjcdhmejcaa
