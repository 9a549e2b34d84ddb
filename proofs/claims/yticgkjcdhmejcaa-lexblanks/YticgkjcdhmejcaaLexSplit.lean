/- lex.Split: all tokens. -/
import Derived.Test.YticgkjcdhmejcaaLexNextAll
import Derived.Test.YticgkjcdhmejcaaPcs
namespace Go.Proofs.Yticgkjcdhmejcaa
open Go.RowKit
set_option linter.unusedVariables false
set_option linter.unusedSimpArgs false

def tkCells (t : Tk) : List Value := [.int .i64 (t.kind : Int), .string (str t.text), .int .i64 (t.place : Int)]
def tflat : List Tk → List Value
  | [] => []
  | q :: l => tkCells q ++ tflat l
theorem tflat_app (l : List Tk) (q : Tk) : tflat (l ++ [q]) = tflat l ++ tkCells q := by
  induction l with
  | nil => simp [tflat]
  | cons x l ih => simp [tflat, ih]
theorem tflat_length (l : List Tk) : (tflat l).length = l.length * 3 := by
  induction l with
  | nil => rfl
  | cons x l ih => simp [tflat, tkCells, ih]; omega
theorem tcame_nil (w : World) (ao : Option Addr) (b off : Nat) : Came w 3 ao b off 0 0 (tflat []) :=
  ⟨Nat.le_refl _, fun h => absurd h (by decide), fun h => absurd h (by decide), rfl, fun j u h => by simp [tflat] at h, fun j h => by simp at h⟩

theorem info_tok : (Try.prog.info? 53).map (fun i => (i.zero, i.size, i.bytes)) = some (some (.agg #[.int .i64 0, .string ⟨#[]⟩, .int .i64 0]), 3, 32) := by kernel_rfl

/-- The tokens so far lie in memory, and can be appended to. -/
structure TList (w wr : World) (ts : List Tk) (ao : Option Addr) (b off cap : Nat) : Prop where
  came : Came wr 3 ao b off ts.length cap (tflat ts)
  own : 0 < cap → w.heap.size ≤ b
  kept : Kept w.heap.size w wr

theorem tlist_start (w : World) : TList w w [] none 0 0 0 := ⟨tcame_nil _ _ _ _, fun h => absurd h (by decide), Kept.refl _ _⟩
theorem TList.next {w wr w' : World} {ts : List Tk} {ao : Option Addr} {b off cap : Nat} (h : TList w wr ts ao b off cap) (k : Kept wr.heap.size wr w') : TList w w' ts ao b off cap :=
  ⟨Came.kept h.came k (fun hp => h.came.lt hp), h.own, h.kept.trans (k.mono h.kept.size)⟩
theorem TList.app {w W w' : World} {e : TypeId} {r : Nat} {ts : List Tk} {ao : Option Addr} {b off cap : Nat} {v : Value} {t : Tk} (h : TList w W ts ao b off cap) (hu : Upon W e 3 ao b off ts.length cap (tflat ts) w' v 1 (tkCells t) r) :
    ∃ ao' b' off' cap', v = .slice ao' (ts ++ [t]).length cap' ∧ TList w w' (ts ++ [t]) ao' b' off' cap' := by
  obtain ⟨ao', b', off', cap', rfl, hC', hb'⟩ := came_next h.came hu (by decide)
  refine ⟨ao', b', off', cap', by simp, ⟨by rw [tflat_app]; simpa using hC', fun hc => ?_, ?_⟩⟩
  · rcases hb' with ⟨rfl, rfl⟩ | hb'
    · exact h.own hc
    · have := h.kept.size; omega
  · refine h.kept.trans (Kept.upon hu h.kept.size ?_)
    rcases Nat.eq_zero_or_pos cap with h0 | h0
    · exact .inl h0
    · exact .inr (h.own h0)

/-- What Split answers. -/
def LSplitPost (w : World) (bs : List Nat) (e : Ending) (w' : World) : Prop :=
  (∃ c p v, toks 0 bs = .error (c, p) ∧ e = .returned (.tuple #[.slice none 0 0, v]) ∧ AtErr w.heap.size w' v c p ∧ Kept w.heap.size w w') ∨
  ∃ (ts : List Tk) (ao : Option Addr) (b off cap : Nat), toks 0 bs = .ok ts ∧ e = .returned (.tuple #[.slice ao ts.length cap, .nilIface]) ∧ TList w w' ts ao b off cap

structure TRel (w : World) (bs : List Nat) (vl va : Value) (wr : World) (i : Nat) (ts : List Tk) (ao : Option Addr) (b off cap : Nat) : Prop where
  va : va = .int .i64 (i : Int)
  vl : vl = .slice ao ts.length cap
  il : i ≤ bs.length
  tk : toks 0 bs = (toks i (bs.drop i)).map fun l => ts ++ l
  stop : i < bs.length → (first (bs.drop i)).1 ≠ 0
  list : TList w wr ts ao b off cap
  many : ts.length ≤ i

theorem map_id (x : Except (Nat × Nat) (List Tk)) : (x.map fun l => [] ++ l) = x := by cases x <;> rfl

theorem map_two (x : Except (Nat × Nat) (List Tk)) (ts : List Tk) (t : Tk) : ((x.map fun l => t :: l).map fun l => ts ++ l) = x.map fun l => (ts ++ [t]) ++ l := by cases x <;> simp [Except.map]

theorem src_tok (ty : TypeId) (W : World) (s : Nat) (hs : W.heap.size = s) (k : Int) (sb : ByteArray) (i : Int) :
    Src Try.prog 3 42 (.slice (some ⟨s, 0, none⟩) 1 1) 1 [.int .i64 k, .string sb, .int .i64 i] (W.alloc (.cells #[.int .i64 k, .string sb, .int .i64 i] ty)) := by
  subst hs
  refine Src.ofSlice _ Try.underlying42 ⟨W.heap.size, 0, none⟩ 1 1 _ rfl (fun j u hj => ?_) (fun u hu => ?_)
  · rw [Addr.add_lit, Nat.zero_add, World.cell?_alloc_new]
    simpa using hj
  · simp at hu
    rcases hu with rfl | rfl | rfl <;> rfl

/-- What a round makes of what holds. -/
theorem trel_step {w w2 : World} {bs : List Nat} {vl va : Value} {wr : World} {i j : Nat} {ts : List Tk} {ao ao' : Option Addr} {b off cap b' off' cap' : Nat}
    (R : TRel w bs vl va wr i ts ao b off cap) (hlt : i < bs.length) (h10 : (first (bs.drop i)).1 < 10) (hj : Skips bs (i + (first (bs.drop i)).2.2) j)
    (hL : TList w w2 (ts ++ [⟨(first (bs.drop i)).1, (first (bs.drop i)).2.1, i⟩]) ao' b' off' cap') :
    TRel w bs (.slice ao' (ts ++ [Tk.mk (first (bs.drop i)).1 (first (bs.drop i)).2.1 i]).length cap') (.int .i64 (j : Int)) w2 j (ts ++ [⟨(first (bs.drop i)).1, (first (bs.drop i)).2.1, i⟩]) ao' b' off' cap' := by
  have hne : bs.drop i ≠ [] := by intro h; rw [List.drop_eq_nil_iff] at h; omega
  have hl := first_len hne h10
  refine ⟨rfl, rfl, hj.2.1, ?_, hj.2.2.2, hL, ?_⟩
  · rw [R.tk, toks_tok hne (R.stop hlt) h10, map_two, List.drop_drop, hj.2.2.1]
  · have := R.many
    have := hj.1
    simp; omega

theorem trel_bad {w : World} {bs : List Nat} {vl va : Value} {wr : World} {i : Nat} {ts : List Tk} {ao : Option Addr} {b off cap : Nat}
    (R : TRel w bs vl va wr i ts ao b off cap) (hlt : i < bs.length) (h10 : 10 ≤ (first (bs.drop i)).1) : toks 0 bs = .error ((first (bs.drop i)).1 - 10, i) := by
  have hne : bs.drop i ≠ [] := by intro h; rw [List.drop_eq_nil_iff] at h; omega
  rw [R.tk, toks_bad hne h10]; rfl
theorem trel_end {w : World} {bs : List Nat} {vl va : Value} {wr : World} {i : Nat} {ts : List Tk} {ao : Option Addr} {b off cap : Nat}
    (R : TRel w bs vl va wr i ts ao b off cap) (hlt : ¬ i < bs.length) : toks 0 bs = .ok (ts ++ [⟨5, [], i⟩]) := by
  rw [R.tk, List.drop_eq_nil_of_le (by omega), toks_nil]; rfl

set_option maxHeartbeats 2000000 in
set_option maxRecDepth 100000 in
theorem lsplit_any {w : World} {s : ByteArray} {bs : List Nat} (hs : Spells s bs) (hlen : s.size ≤ 50000) :
    Calls Try.prog 15 #[.string s] w (LSplitPost w bs) := by
  obtain ⟨i0, hi, hz0, hz1, hz2⟩ := info_parts info_tok
  have HSZ : Hid (s.size = bs.length) := hs.size
  have HS : Hid (Spells s bs) := hs
  clear hs
  go_enter Try.func15, Try.ntmps15
  go_wp2_with fail
  refine (skip_any s bs 0 _ HS.out (by omega) (by omega)).mono ?_
  rintro e w1 ⟨j, rfl, hj, rfl⟩
  have HJ : Hid (Skips bs 0 j) := hj
  clear hj
  go_wp2
  go_loopw [4, 5] (fun vl va wr => ∃ i ts ao b off cap, TRel w1 bs vl va wr i ts ao b off cap) (fun _ va _ => s.size - (intOf va).toNat)
  case atStart =>
    refine ⟨j, [], none, 0, 0, 0, rfl, rfl, HJ.out.2.1, ?_, HJ.out.2.2.2, tlist_start _, Nat.zero_le _⟩
    rw [map_id]; exact HJ.out.2.2.1
  case round =>
    obtain ⟨i, ts, ao, b, off, cap, R⟩ := hrel
    have hva := R.va
    have hvl := R.vl
    subst hva hvl
    have hmany := R.many
    have hil : i ≤ s.size := by rw [HSZ.out]; exact R.il
    by_cases hlt : i < s.size
    · have hltb : i < bs.length := by rw [← HSZ.out]; exact hlt
      have HSTOP : Hid ((first (bs.drop i)).1 ≠ 0) := R.stop hltb
      have HLT : Hid (i < bs.length) := hltb
      clear hltb
      go_wp2_with fail
      refine (lnext_any s bs i _ HS.out (by omega) hlt HSTOP.out).mono ?_
      rintro e w2 (⟨h10, sb, rfl, hsp, hK⟩ | ⟨h10, v, rfl, hA, hK⟩)
      · have hn := first_len (r := bs.drop i) (by intro h; rw [List.drop_eq_nil_iff] at h; have := HLT.out; omega) h10
        rw [List.length_drop] at hn
        have HSP : sb = str (first (bs.drop i)).2.1 := hsp.eq
        have HR : Hid _ := R
        have hL0 := R.list.next hK
        have HSTEP : Hid (∀ {w2 : World} {j : Nat} {ao' : Option Addr} {b' off' cap' : Nat}, Skips bs (i + (first (bs.drop i)).2.2) j → TList w1 w2 (ts ++ [⟨(first (bs.drop i)).1, (first (bs.drop i)).2.1, i⟩]) ao' b' off' cap' →
          TRel w1 bs (.slice ao' (ts ++ [Tk.mk (first (bs.drop i)).1 (first (bs.drop i)).2.1 i]).length cap') (.int .i64 (j : Int)) w2 j (ts ++ [⟨(first (bs.drop i)).1, (first (bs.drop i)).2.1, i⟩]) ao' b' off' cap') := fun h1 h2 => trel_step R HLT.out h10 h1 h2
        clear hK R HR hsp h10 HSTOP
        subst HSP
        have hn1 : i + (first (bs.drop i)).2.2 ≤ s.size := by have := HSZ.out; have := HLT.out; omega
        have hn0 := hn.1
        clear hn
        generalize first (bs.drop i) = F at *
        obtain ⟨k, l, n⟩ := F
        simp only at *
        have hL1 := hL0.next (alloc2 w2 (.cells #[.int .i64 (k : Int), .string (str l), .int .i64 (i : Int)] 53) (.cells #[.int .i64 (k : Int), .string (str l), .int .i64 (i : Int)] 53))
        have hC := hL1.came
        clear hL0
        unfold tokRes
        go_wp2_with (at_builtin; refine wpList_append_upon _ rfl (.tmp 25) (.tmp 27) 42 42 rfl hC i0 _ 32 Try.underlying42 hi hz0 hz1 hz2 rfl rfl (Upon.start hC) _ 1 _ rfl (src_tok _ _ _ (by simp) _ _ _) (by unfold maxLen; omega) (by omega) ?_)
        intro v' w3 hup
        obtain ⟨ao', b', off', cap', rfl, hT⟩ := hL1.app (t := ⟨k, l, i⟩) hup
        have HT : Hid (TList w1 w3 (ts ++ [⟨k, l, i⟩]) ao' b' off' cap') := hT
        clear hT hup hC hL1
        go_wp2_with fail
        refine (skip_any s bs (i + n) _ HS.out (by omega) hn1).mono ?_
        rintro e w4 ⟨j2, rfl, hj2, rfl⟩
        have HJ2 : Hid (Skips bs (i + n) j2) := hj2
        have hj2a : i < j2 := by have := hj2.1; omega
        have hj2b : j2 ≤ s.size := by rw [HSZ.out]; exact hj2.2.1
        clear hj2
        go_wp2
        have st := HSTEP.out HJ2.out HT.out
        simp only [List.length_append, List.length_cons, List.length_nil, Nat.zero_add] at st
        refine ⟨⟨_, _, _, _, _, _, st⟩, ?_⟩
        simp only [intOf]; omega
      · have HB := trel_bad R HLT.out h10
        have HE : Hid (toks 0 bs = .error ((first (bs.drop i)).1 - 10, i)) := HB
        have HA : Hid (AtErr w1.heap.size w2 v ((first (bs.drop i)).1 - 10) i) := hA.mono R.list.kept.size
        have HK : Hid (Kept w1.heap.size w1 w2) := R.list.kept.trans (hK.mono R.list.kept.size)
        obtain ⟨bb, rfl, _⟩ := hA
        have hszw : w1.heap.size ≤ w2.heap.size := HK.out.size
        clear hK R HB h10
        unfold noTok
        go_wp2
        go_ret2
        exact .inl ⟨_, _, _, HE.out, rfl, HA.out.kept (Kept.alloc (Kept.refl _ _) (Nat.le_refl _) _), HK.out.alloc hszw _⟩
    · have hE : Hid (toks 0 bs = .ok (ts ++ [⟨5, [], i⟩])) := trel_end R (by rw [← HSZ.out]; exact hlt)
      have hL1 := R.list.next (Kept.alloc (Kept.refl _ _) (Nat.le_refl _) (.cells #[.int .i64 5, .string ⟨#[]⟩, .int .i64 (s.size : Int)] 53))
      have hC := hL1.came
      have heq : i = s.size := by omega
      subst heq
      go_wp2_with (at_builtin; refine wpList_append_upon _ rfl (.tmp 32) (.tmp 36) 42 42 rfl hC i0 _ 32 Try.underlying42 hi hz0 hz1 hz2 rfl rfl (Upon.start hC) _ 1 _ rfl (src_tok _ _ _ rfl _ _ _) (by unfold maxLen; omega) (by omega) ?_)
      intro v' w3 hup
      obtain ⟨ao', b', off', cap', rfl, hT⟩ := hL1.app (t := ⟨5, [], s.size⟩) hup
      have HT : Hid (TList w1 w3 (ts ++ [⟨5, [], s.size⟩]) ao' b' off' cap') := hT
      clear hT hup hC hL1
      go_wp2
      go_ret2
      exact .inr ⟨_, _, _, _, _, hE.out, rfl, HT.out⟩
end Go.Proofs.Yticgkjcdhmejcaa
