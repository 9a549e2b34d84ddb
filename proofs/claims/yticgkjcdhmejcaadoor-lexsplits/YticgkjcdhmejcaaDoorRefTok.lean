/- The document's own answer: all tokens. -/
import Derived.Test.YticgkjcdhmejcaaDoorLexSplit
import Derived.Test.YticgkjcdhmejcaaDoorBare
namespace Go.Proofs.YticgkjcdhmejcaaDoor
open Go.RowKit
set_option linter.unusedVariables false
set_option linter.unusedSimpArgs false

theorem rletter_tells : Tells 34 isLet := by
  refine ⟨fun _ _ => by kernel_rfl, ?_⟩
  intro c w hc
  go_enter Tryd.func34, Tryd.ntmps34
  go_wp2
  all_goals
    go_ret
    exact ⟨ret_bool (by rw [Bool.eq_iff_iff]; simp [isLet]; omega), rfl⟩
theorem rdigit_tells : Tells 35 isDig := by
  refine ⟨fun _ _ => by kernel_rfl, ?_⟩
  intro c w hc
  go_enter Tryd.func35, Tryd.ntmps35
  go_wp2
  all_goals
    go_ret
    exact ⟨ret_bool (by rw [Bool.eq_iff_iff]; simp [isDig]; omega), rfl⟩

theorem info_rtok : (Tryd.prog.info? 69).map (fun i => (i.zero, i.size, i.bytes)) = some (some (.agg #[.int .i64 0, .string ⟨#[]⟩, .int .i64 0]), 3, 32) := by kernel_rfl

theorem first_eq (bs : List Nat) (i : Nat) : first (bs.drop i) = (if isGap (bs.getD i 0) = true then (0, [], 1)
    else if bs.getD i 0 = 47 ∧ bs.getD (i + 1) 0 = 47 then (0, [], runv inLine (bs.drop i))
    else if isLet (bs.getD i 0) = true then (1, (bs.drop i).take (runv isLD (bs.drop i)), runv isLD (bs.drop i))
    else if isDig (bs.getD i 0) = true then (if 10 < runv isDig (bs.drop i) then (14, [], 0) else (2, (bs.drop i).take (runv isDig (bs.drop i)), runv isDig (bs.drop i)))
    else if bs.getD i 0 = 34 then (if bs.getD (i + 1 + runv inText (bs.drop (i + 1))) 0 = 34 then (3, (bs.drop (i + 1)).take (runv inText (bs.drop (i + 1))), runv inText (bs.drop (i + 1)) + 2) else (13, [], 0))
    else if isMark (bs.getD i 0) = true then (4, (bs.drop i).take 1, 1)
    else (13, [], 0)) := by
  unfold first
  rw [drop_getD, drop_getD, Nat.add_zero, List.drop_drop, drop_getD, show i + (runv inText (bs.drop (i + 1)) + 1) = i + 1 + runv inText (bs.drop (i + 1)) by omega]

/-- What the document's Tokens answers. -/
def RTokPost (w : World) (bs : List Nat) (e : Ending) (w' : World) : Prop :=
  (∃ c p : Nat, toks 0 bs = .error (c, p) ∧ e = .returned (.tuple #[.slice none 0 0, .agg #[.int .i64 (c : Int), .int .i64 (p : Int)]]) ∧ Kept w.heap.size w w') ∨
  ∃ (ts : List Tk) (ao : Option Addr) (b off cap : Nat), toks 0 bs = .ok ts ∧ e = .returned (.tuple #[.slice ao ts.length cap, .agg #[.int .i64 0, .int .i64 (-1)]]) ∧ TList w w' ts ao b off cap

structure RTRel (w : World) (bs : List Nat) (vl va : Value) (wr : World) (i : Nat) (ts : List Tk) (ao : Option Addr) (b off cap : Nat) : Prop where
  va : va = .int .i64 (i : Int)
  vl : vl = .slice ao ts.length cap
  il : i ≤ bs.length
  tk : toks 0 bs = (toks i (bs.drop i)).map fun l => ts ++ l
  list : TList w wr ts ao b off cap
  many : ts.length ≤ i

theorem rt_gap {w : World} {bs : List Nat} {vl va : Value} {wr : World} {i j : Nat} {ts : List Tk} {ao : Option Addr} {b off cap : Nat}
    (R : RTRel w bs vl va wr i ts ao b off cap) (hlt : i < bs.length) {l : List Nat} {n : Nat} (hf : first (bs.drop i) = (0, l, n)) (hj : j = i + n) :
    RTRel w bs (.slice ao ts.length cap) (.int .i64 (j : Int)) wr j ts ao b off cap := by
  have hne : bs.drop i ≠ [] := by intro h; rw [List.drop_eq_nil_iff] at h; omega
  have hl := first_len hne (by rw [hf]; exact Nat.zero_lt_succ 9)
  rw [hf] at hl
  simp only [List.length_drop] at hl
  subst hj
  refine ⟨rfl, rfl, by omega, ?_, R.list, by have := R.many; omega⟩
  rw [R.tk, toks_gap hne (by rw [hf]), hf, List.drop_drop]
theorem rt_tok {w w2 : World} {bs : List Nat} {vl va : Value} {wr : World} {i j k n : Nat} {l : List Nat} {ts : List Tk} {ao ao' : Option Addr} {b off cap b' off' cap' : Nat}
    (R : RTRel w bs vl va wr i ts ao b off cap) (hlt : i < bs.length) (hf : first (bs.drop i) = (k, l, n)) (hk0 : k ≠ 0) (hk : k < 10) (hj : j = i + n)
    (hL : TList w w2 (ts ++ [⟨k, l, i⟩]) ao' b' off' cap') : RTRel w bs (.slice ao' (ts.length + 1) cap') (.int .i64 (j : Int)) w2 j (ts ++ [⟨k, l, i⟩]) ao' b' off' cap' := by
  have hne : bs.drop i ≠ [] := by intro h; rw [List.drop_eq_nil_iff] at h; omega
  have hl := first_len hne (by rw [hf]; exact hk)
  rw [hf] at hl
  simp only [List.length_drop] at hl
  subst hj
  refine ⟨rfl, by simp, by omega, ?_, hL, by have := R.many; simp; omega⟩
  rw [R.tk, toks_tok hne (by rw [hf]; exact hk0) (by rw [hf]; exact hk), hf, map_two, List.drop_drop]
theorem rt_bad {w : World} {bs : List Nat} {vl va : Value} {wr : World} {i k : Nat} {ts : List Tk} {ao : Option Addr} {b off cap : Nat}
    (R : RTRel w bs vl va wr i ts ao b off cap) (hlt : i < bs.length) (hf : first (bs.drop i) = (k + 10, [], 0)) : toks 0 bs = .error (k, i) := by
  have hne : bs.drop i ≠ [] := by intro h; rw [List.drop_eq_nil_iff] at h; omega
  rw [R.tk, toks_bad hne (by rw [hf]; simp), hf]; simp [Except.map]
theorem rt_end {w : World} {bs : List Nat} {vl va : Value} {wr : World} {i : Nat} {ts : List Tk} {ao : Option Addr} {b off cap : Nat}
    (R : RTRel w bs vl va wr i ts ao b off cap) (hlt : ¬ i < bs.length) : toks 0 bs = .ok (ts ++ [⟨5, [], i⟩]) := by
  rw [R.tk, List.drop_eq_nil_of_le (by omega), toks_nil]; rfl

theorem src_rtok (ty : TypeId) (W : World) (s : Nat) (hs : W.heap.size = s) (k : Int) (sb : ByteArray) (i : Int) :
    Src Tryd.prog 3 58 (.slice (some ⟨s, 0, none⟩) 1 1) 1 [.int .i64 k, .string sb, .int .i64 i] (W.alloc (.cells #[.int .i64 k, .string sb, .int .i64 i] ty)) := by
  subst hs
  refine Src.ofSlice _ Tryd.underlying58 ⟨W.heap.size, 0, none⟩ 1 1 _ rfl (fun j u hj => ?_) (fun u hu => ?_)
  · rw [Addr.add_lit, Nat.zero_add, World.cell?_alloc_new]
    simpa using hj
  · simp at hu
    rcases hu with rfl | rfl | rfl <;> rfl

theorem Came.set {wr : World} {size n : Nat} {olds : List Value} {ao : Option Addr} {b off cap : Nat} (h : Came wr size ao b off n cap olds) {a : Addr} (ha : 0 < cap → a.block ≠ b) (v : Value) : Came (wr.setCell a v) size ao b off n cap olds := by
  refine ⟨h.le, h.addr, fun hp => by have := h.lt hp; simpa using this, h.oldsLen, fun j u hj => ?_, fun j hj => ?_⟩
  · have hp : 0 < cap := by
      rcases Nat.eq_zero_or_pos cap with h0 | h0
      · have h1 := h.le
        have h2 := h.oldsLen
        have hz : n = 0 := by omega
        rw [hz, Nat.zero_mul] at h2
        rw [List.eq_nil_of_length_eq_zero h2] at hj
        simp at hj
      · exact h0
    exact (World.cell?_setCell_other _ _ _ _ (by rintro rfl; exact ha hp rfl)).trans (h.olds j u hj)
  · have hp : 0 < cap := by
      rcases Nat.eq_zero_or_pos cap with h0 | h0
      · subst h0; simp at hj
      · exact h0
    rw [show (wr.setCell a v).cell? ⟨b, off + n * size + j, none⟩ = _ from World.cell?_setCell_other _ _ _ _ (by rintro rfl; exact ha hp rfl), World.frozen?_setCell]
    exact h.spare j hj
theorem TList.app2 {w W w' : World} {e : TypeId} {r : Nat} {ts : List Tk} {ao : Option Addr} {b off cap : Nat} {v : Value} {t : Tk} {ks : List Value} (h : TList w W ts ao b off cap) (hu : Upon W e 3 ao b off ts.length cap (tflat ts) w' v 1 ks r) (hk : ks = tkCells t) :
    ∃ ao' b' off' cap', v = .slice ao' (ts ++ [t]).length cap' ∧ TList w w' (ts ++ [t]) ao' b' off' cap' := by subst hk; exact h.app hu
theorem tset2 {w0 w wr : World} {ts : List Tk} {ao : Option Addr} {b off cap : Nat} (h : TList w0 wr ts ao b off cap) (hk : Kept w.heap.size w w0) (ha : w.heap.size < w0.heap.size) (v v' : Value) :
    TList w ((wr.setCell ⟨w.heap.size, 0, none⟩ v).setCell ⟨w.heap.size, 1, none⟩ v') ts ao b off cap := by
  have hb : 0 < cap → w.heap.size ≠ b := fun hp => by have := h.own hp; omega
  exact ⟨Came.set (Came.set h.came hb v) hb v', fun hp => by have := h.own hp; omega, Kept.setCell (Kept.setCell (hk.trans (h.kept.mono hk.size)) (Nat.le_refl _) _) (Nat.le_refl _) _⟩

set_option maxHeartbeats 8000000 in
set_option maxRecDepth 100000 in
theorem rtoks_any {w : World} {s : ByteArray} {bs : List Nat} (hs : Spells s bs) (hlen : s.size ≤ 10000) :
    Calls Tryd.prog 25 #[.string s] w (RTokPost w bs) := by
  obtain ⟨i0, hi, hz0, hz1, hz2⟩ := info_parts info_rtok
  have HSZ : Hid (s.size = bs.length) := hs.size
  have HS : Hid (Spells s bs) := hs
  have HBY : Hid (∀ k (h : k < s.size), (s[k]'h).toNat = bs.getD k 0) := hs.get
  have HLT : Hid (∀ k, bs.getD k 0 < 256) := fun k => byte_lt hs k
  clear hs
  go_enter Tryd.func25, Tryd.ntmps25
  go_wp2
  have HKW : Hid (Kept w.heap.size w (w.alloc (.cells #[.int .i64 0, .int .i64 0] 60))) := Kept.alloc (Kept.refl _ _) (Nat.le_refl _) _
  have e0 : (w.alloc (.cells #[.int .i64 0, .int .i64 0] 60)).cell? ⟨w.heap.size, 0, none⟩ = some (.int .i64 0) := by simp
  have e1 : (w.alloc (.cells #[.int .i64 0, .int .i64 0] 60)).cell? ⟨w.heap.size, 1, none⟩ = some (.int .i64 0) := by simp
  have f0 : (w.alloc (.cells #[.int .i64 0, .int .i64 0] 60)).frozen? ⟨w.heap.size, 0, none⟩ = false := by simp
  have f1 : (w.alloc (.cells #[.int .i64 0, .int .i64 0] 60)).frozen? ⟨w.heap.size, 1, none⟩ = false := by simp
  have hws : w.heap.size < (w.alloc (.cells #[.int .i64 0, .int .i64 0] 60)).heap.size := by simp
  generalize (w.alloc (.cells #[.int .i64 0, .int .i64 0] 60)) = W0 at *
  go_loopw [4, 5] (fun vl va wr => ∃ i ts ao b off cap, RTRel W0 bs vl va wr i ts ao b off cap) (fun _ va _ => s.size - (intOf va).toNat)
  case atStart =>
    refine ⟨0, [], none, 0, 0, 0, rfl, rfl, Nat.zero_le _, ?_, tlist_start _, Nat.zero_le _⟩
    rw [map_id]; rfl
  case round =>
    obtain ⟨i, ts, ao, b, off, cap, R⟩ := hrel
    have hva := R.va
    have hvl := R.vl
    subst hva hvl
    have hmany := R.many
    have hil : i ≤ s.size := by rw [HSZ.out]; exact R.il
    have g0 := (R.list.kept.cell (p := ⟨w.heap.size, 0, none⟩) hws).trans e0
    have g1 := (R.list.kept.cell (p := ⟨w.heap.size, 1, none⟩) hws).trans e1
    have fr0 := (R.list.kept.frozen (p := ⟨w.heap.size, 0, none⟩) hws).trans f0
    have fr1 := (R.list.kept.frozen (p := ⟨w.heap.size, 1, none⟩) hws).trans f1
    have HWR : Hid (Kept w.heap.size w wr) := HKW.out.trans (R.list.kept.mono HKW.out.size)
    by_cases hlt : i < s.size
    · have HI : Hid (i < bs.length) := by show i < bs.length; rw [← HSZ.out]; exact hlt
      have HF : Hid _ := first_eq bs i
      obtain ⟨x, hx⟩ : ∃ x, x = bs.getD i 0 := ⟨_, rfl⟩
      have hget : (s[i]'hlt).toNat = x := by rw [HBY.out i hlt, hx]
      have hx256 : x < 256 := by rw [hx]; exact HLT.out i
      have HX : Hid (x = bs.getD i 0) := hx
      rw [← hx] at HF
      clear hx
      have HR : Hid (RTRel W0 bs (.slice ao ts.length cap) (.int .i64 (i : Int)) wr i ts ao b off cap) := R
      have hTL := R.list
      clear R
      by_cases hgap : isGap x = true
      · have HFF : Hid (first (bs.drop i) = (0, [], 1)) := by show first (bs.drop i) = _; rw [HF.out, if_pos hgap]
        have h32 : x = 32 ∨ x = 10 := by simpa [isGap] using hgap
        clear HF hgap
        rcases h32 with rfl | rfl
        all_goals
          as_aux_lemma =>
            clear hTL
            go_wp2
            have st := rt_gap HR.out HI.out HFF.out (j := i + 1) rfl
            refine ⟨⟨_, _, _, _, _, _, st⟩, ?_⟩
            simp only [intOf]; omega
      · rw [if_neg hgap] at HF
        have hx32 : ((x : Int) == 32) = false := by rw [beq_eq_false_iff_ne]; intro h; exact hgap (by rw [show x = 32 by omega]; rfl)
        have hx10 : ((x : Int) == 10) = false := by rw [beq_eq_false_iff_ne]; intro h; exact hgap (by rw [show x = 10 by omega]; rfl)
        clear hgap
        by_cases h47 : x = 47
        · subst h47
          clear hx32 hx10
          by_cases hy47 : bs.getD (i + 1) 0 = 47
          · have hlt1 : i + 1 < s.size := by rw [HSZ.out]; exact getD_ne hy47 (by decide)
            have hg1 : (s[i + 1]'hlt1).toNat = 47 := by rw [HBY.out _ hlt1, hy47]
            have HFF : Hid (first (bs.drop i) = (0, [], runv inLine (bs.drop (i + 1)) + 1)) := by show first (bs.drop i) = _; rw [HF.out, if_pos ⟨rfl, hy47⟩, runv_more inLine bs i HI.out (by rw [← HX.out]; rfl)]
            clear HF hy47
            as_aux_lemma =>
              go_wp2
              go_loop [7] (fun v => ∃ j : Nat, i + 1 ≤ j ∧ j ≤ s.size ∧ v = .int .i64 j ∧ Hid (j + runv inLine (bs.drop j) = i + 1 + runv inLine (bs.drop (i + 1)))) (fun v => s.size - (intOf v).toNat)
              case atStart => exact ⟨i + 1, Nat.le_refl _, hlt, by go_num, rfl⟩
              case round =>
                obtain ⟨j, hij, hjs, rfl, hid⟩ := hrel
                by_cases hjl : j < s.size
                · obtain ⟨y, hy⟩ : ∃ y, y = bs.getD j 0 := ⟨_, rfl⟩
                  have hgy : (s[j]'hjl).toNat = y := by rw [HBY.out j hjl, hy]
                  have hy256 : y < 256 := by rw [hy]; exact HLT.out j
                  have hjb : j < bs.length := by rw [← HSZ.out]; exact hjl
                  cases hpy : inLine y with
                  | true =>
                    have HL : Hid (j + 1 + runv inLine (bs.drop (j + 1)) = i + 1 + runv inLine (bs.drop (i + 1))) := by
                      show j + 1 + runv inLine (bs.drop (j + 1)) = _
                      rw [← hid.out, runv_more inLine bs j hjb (by rw [← hy]; exact hpy)]; omega
                    have hb : ((y : Int) != 10) = true := by rw [bne_iff_ne]; intro h; rw [show y = 10 by omega] at hpy; exact absurd hpy (by decide)
                    clear hy hjb hid hTL
                    go_wp2
                    go_round
                    case rel => exact ⟨j + 1, by omega, by omega, by go_num, HL⟩
                    case measure => simp [intOf]; omega
                  | false =>
                    have hj : j = i + (runv inLine (bs.drop (i + 1)) + 1) := by
                      have h1 := hid.out
                      rw [runv_zero inLine bs j (.inl (by rw [← hy]; exact hpy))] at h1; omega
                    have HJ : Hid (j = i + (runv inLine (bs.drop (i + 1)) + 1)) := hj
                    have hy10 : y = 10 := by simpa [inLine] using hpy
                    have hb : ((y : Int) != 10) = false := by rw [bne_eq_false_iff_eq]; omega
                    clear hy10
                    have HY : Hid (y = bs.getD j 0) := hy
                    clear hy hjb hid hj
                    clear hTL
                    go_wp2
                    have st := rt_gap HR.out HI.out HFF.out (j := j) HJ.out
                    refine ⟨⟨_, _, _, _, _, _, st⟩, ?_⟩
                    simp only [intOf]; omega
                · have hge : (s.size : Int) ≤ (j : Int) := by omega
                  have hj : j = i + (runv inLine (bs.drop (i + 1)) + 1) := by
                    have h1 := hid.out
                    rw [runv_zero inLine bs j (.inr (by rw [← HSZ.out]; omega))] at h1; omega
                  have HJ : Hid (j = i + (runv inLine (bs.drop (i + 1)) + 1)) := hj
                  clear hid hj
                  clear hTL
                  go_wp2
                  have st := rt_gap HR.out HI.out HFF.out (j := j) HJ.out
                  refine ⟨⟨_, _, _, _, _, _, st⟩, ?_⟩
                  simp only [intOf]; omega
          · have HFF : Hid (first (bs.drop i) = (3 + 10, [], 0)) := by show first (bs.drop i) = _; rw [HF.out, if_neg (fun h => hy47 h.2)]; rfl
            have HE : Hid (toks 0 bs = .error (3, i)) := rt_bad HR.out HI.out HFF.out
            clear HF HFF HR hTL
            as_aux_lemma =>
              by_cases hlt1 : i + 1 < s.size
              · obtain ⟨y, hy⟩ : ∃ y, y = bs.getD (i + 1) 0 := ⟨_, rfl⟩
                have hg1 : (s[i + 1]'hlt1).toNat = y := by rw [HBY.out _ hlt1, hy]
                have hy256 : y < 256 := by rw [hy]; exact HLT.out _
                have hb : ((y : Int) == 47) = false := by rw [beq_eq_false_iff_ne]; intro h; exact hy47 (by omega)
                clear hy hy47
                go_wp2_with fail
                refine (rletter_tells.call 47 _ (by decide)).mono ?_
                rw [show isLet 47 = false from rfl]
                rintro e w1 ⟨rfl, rfl⟩
                go_wp2_with fail
                refine (rdigit_tells.call 47 _ (by decide)).mono ?_
                rw [show isDig 47 = false from rfl]
                rintro e w1 ⟨rfl, rfl⟩
                go_wp2
                exact bodyPost_ret (v := .tuple #[.slice none 0 0, .agg #[.int .i64 3, .int .i64 (i : Int)]]) (by simp [results, Tryd.results25, go_sem, g0, g1]) rfl (.inl ⟨3, i, HE.out, rfl, Kept.setCell (Kept.setCell HWR.out (by simp) _) (by simp) _⟩)
              · have hge : (s.size : Int) ≤ (i : Int) + 1 := by omega
                clear hy47
                go_wp2_with fail
                refine (rletter_tells.call 47 _ (by decide)).mono ?_
                rw [show isLet 47 = false from rfl]
                rintro e w1 ⟨rfl, rfl⟩
                go_wp2_with fail
                refine (rdigit_tells.call 47 _ (by decide)).mono ?_
                rw [show isDig 47 = false from rfl]
                rintro e w1 ⟨rfl, rfl⟩
                go_wp2
                exact bodyPost_ret (v := .tuple #[.slice none 0 0, .agg #[.int .i64 3, .int .i64 (i : Int)]]) (by simp [results, Tryd.results25, go_sem, g0, g1]) rfl (.inl ⟨3, i, HE.out, rfl, Kept.setCell (Kept.setCell HWR.out (by simp) _) (by simp) _⟩)
        · have hb47 : ((x : Int) == 47) = false := by rw [beq_eq_false_iff_ne]; omega
          rw [if_neg (fun h => h47 h.1)] at HF
          clear h47
          cases hL : isLet x with
          | true =>
            have HFF : Hid (first (bs.drop i) = (1, (bs.drop i).take (runv isLD (bs.drop (i + 1)) + 1), runv isLD (bs.drop (i + 1)) + 1)) := by
              show first (bs.drop i) = _
              rw [HF.out, if_pos hL, runv_more isLD bs i HI.out (by rw [← HX.out]; unfold isLD; rw [hL]; rfl)]
            clear HF
            as_aux_lemma =>
              go_wp2_with fail
              refine (rletter_tells.call x _ hx256).mono ?_
              rw [hL]
              rintro e w1 ⟨rfl, rfl⟩
              go_wp2
              go_loop [7] (fun v => ∃ j : Nat, i + 1 ≤ j ∧ j ≤ s.size ∧ v = .int .i64 j ∧ Hid (j + runv isLD (bs.drop j) = i + 1 + runv isLD (bs.drop (i + 1)))) (fun v => s.size - (intOf v).toNat)
              case atStart => exact ⟨i + 1, Nat.le_refl _, hlt, by go_num, rfl⟩
              case round =>
                obtain ⟨j, hij, hjs, rfl, hid⟩ := hrel
                by_cases hjl : j < s.size
                · obtain ⟨y, hy⟩ : ∃ y, y = bs.getD j 0 := ⟨_, rfl⟩
                  have hgy : (s[j]'hjl).toNat = y := by rw [HBY.out j hjl, hy]
                  have hy256 : y < 256 := by rw [hy]; exact HLT.out j
                  have hjb : j < bs.length := by rw [← HSZ.out]; exact hjl
                  cases hpy : isLD y with
                  | true =>
                    have HL : Hid (j + 1 + runv isLD (bs.drop (j + 1)) = i + 1 + runv isLD (bs.drop (i + 1))) := by
                      show j + 1 + runv isLD (bs.drop (j + 1)) = _
                      rw [← hid.out, runv_more isLD bs j hjb (by rw [← hy]; exact hpy)]; omega
                    clear hy hjb hid hTL
                    go_wp2_with fail
                    refine (rletter_tells.call y _ hy256).mono ?_
                    rintro e w1 ⟨rfl, rfl⟩
                    rcases hly : isLet y with _ | _
                    · go_wp2_with fail
                      refine (rdigit_tells.call y _ hy256).mono ?_
                      rw [show isDig y = true by simpa [isLD, hly] using hpy]
                      rintro e w2 ⟨rfl, rfl⟩
                      go_wp2
                      go_round
                      case rel => exact ⟨j + 1, by omega, by omega, by go_num, HL⟩
                      case measure => simp [intOf]; omega
                    · go_wp2
                      go_round
                      case rel => exact ⟨j + 1, by omega, by omega, by go_num, HL⟩
                      case measure => simp [intOf]; omega
                  | false =>
                    have hj : j = i + (runv isLD (bs.drop (i + 1)) + 1) := by
                      have h1 := hid.out
                      rw [runv_zero isLD bs j (.inl (by rw [← hy]; exact hpy))] at h1; omega
                    have HJ : Hid (j = i + (runv isLD (bs.drop (i + 1)) + 1)) := hj
                    have HY : Hid (y = bs.getD j 0) := hy
                    clear hy hjb hid hj
                    go_wp2_with fail
                    refine (rletter_tells.call y _ hy256).mono ?_
                    rw [show isLet y = false from (by have := hpy; unfold isLD at this; simp only [Bool.or_eq_false_iff] at this; exact this.1)]
                    rintro e w1 ⟨rfl, rfl⟩
                    go_wp2_with fail
                    refine (rdigit_tells.call y _ hy256).mono ?_
                    rw [show isDig y = false from (by have := hpy; unfold isLD at this; simp only [Bool.or_eq_false_iff] at this; exact this.2)]
                    rintro e w2 ⟨rfl, rfl⟩
                    have HCUT : Hid (Spells (s.extract i j) ((bs.drop i).take (runv isLD (bs.drop (i + 1)) + 1))) := by
                      show Spells (s.extract i j) _
                      have h1 := HJ.out
                      rw [h1]; exact cut_n HS.out (by omega)
                    have HCC : Hid (s.extract i j = str ((bs.drop i).take (runv isLD (bs.drop (i + 1)) + 1))) := (HCUT.out).eq
                    have hL1 := hTL.next (Kept.alloc (Kept.refl _ _) (Nat.le_refl _) (.cells #[.int .i64 1, .string (s.extract i j), .int .i64 (i : Int)] 69))
                    have hC := hL1.came
                    clear hTL
                    go_wp2_with (at_builtin; refine wpList_append_upon _ rfl (.tmp 74) (.tmp 81) 58 58 rfl hC i0 _ 32 Tryd.underlying58 hi hz0 hz1 hz2 rfl rfl (Upon.start hC) _ 1 _ rfl (src_rtok _ _ _ rfl _ _ _) (by unfold maxLen; omega) (by omega) ?_)
                    intro v' w3 hup
                    obtain ⟨ao', b', off', cap', rfl, hT⟩ := hL1.app2 (t := ⟨1, (bs.drop i).take (runv isLD (bs.drop (i + 1)) + 1), i⟩) hup (by rw [HCC.out]; rfl)
                    have HT : Hid (TList W0 w3 (ts ++ [⟨1, (bs.drop i).take (runv isLD (bs.drop (i + 1)) + 1), i⟩]) ao' b' off' cap') := hT
                    clear hT hup hC hL1
                    simp only [List.length_append, List.length_cons, List.length_nil, Nat.zero_add]
                    go_wp2
                    have st := rt_tok HR.out HI.out HFF.out (by decide) (by decide) (j := j) (HJ.out) HT.out
                    refine ⟨⟨_, _, _, _, _, _, st⟩, ?_⟩
                    simp only [intOf]; omega
                · have hge : (s.size : Int) ≤ (j : Int) := by omega
                  have hj : j = i + (runv isLD (bs.drop (i + 1)) + 1) := by
                    have h1 := hid.out
                    rw [runv_zero isLD bs j (.inr (by rw [← HSZ.out]; omega))] at h1; omega
                  have HJ : Hid (j = i + (runv isLD (bs.drop (i + 1)) + 1)) := hj
                  clear hid hj
                  have HCUT : Hid (Spells (s.extract i j) ((bs.drop i).take (runv isLD (bs.drop (i + 1)) + 1))) := by
                    show Spells (s.extract i j) _
                    have h1 := HJ.out
                    rw [h1]; exact cut_n HS.out (by omega)
                  have HCC : Hid (s.extract i j = str ((bs.drop i).take (runv isLD (bs.drop (i + 1)) + 1))) := (HCUT.out).eq
                  have hL1 := hTL.next (Kept.alloc (Kept.refl _ _) (Nat.le_refl _) (.cells #[.int .i64 1, .string (s.extract i j), .int .i64 (i : Int)] 69))
                  have hC := hL1.came
                  clear hTL
                  go_wp2_with (at_builtin; refine wpList_append_upon _ rfl (.tmp 74) (.tmp 81) 58 58 rfl hC i0 _ 32 Tryd.underlying58 hi hz0 hz1 hz2 rfl rfl (Upon.start hC) _ 1 _ rfl (src_rtok _ _ _ rfl _ _ _) (by unfold maxLen; omega) (by omega) ?_)
                  intro v' w3 hup
                  obtain ⟨ao', b', off', cap', rfl, hT⟩ := hL1.app2 (t := ⟨1, (bs.drop i).take (runv isLD (bs.drop (i + 1)) + 1), i⟩) hup (by rw [HCC.out]; rfl)
                  have HT : Hid (TList W0 w3 (ts ++ [⟨1, (bs.drop i).take (runv isLD (bs.drop (i + 1)) + 1), i⟩]) ao' b' off' cap') := hT
                  clear hT hup hC hL1
                  simp only [List.length_append, List.length_cons, List.length_nil, Nat.zero_add]
                  go_wp2
                  have st := rt_tok HR.out HI.out HFF.out (by decide) (by decide) (j := j) (HJ.out) HT.out
                  refine ⟨⟨_, _, _, _, _, _, st⟩, ?_⟩
                  simp only [intOf]; omega
          | false =>
            rw [if_neg (by rw [hL]; decide)] at HF
            cases hD : isDig x with
            | true =>
              rw [if_pos hD, runv_more isDig bs i HI.out (by rw [← HX.out]; exact hD)] at HF
              by_cases h10 : 10 < runv isDig (bs.drop (i + 1)) + 1
              · have HFF : Hid (first (bs.drop i) = (4 + 10, [], 0)) := by show first (bs.drop i) = _; rw [HF.out, if_pos h10]
                have HE : Hid (toks 0 bs = .error (4, i)) := rt_bad HR.out HI.out HFF.out
                clear HF HFF HR
                have H10 : Hid (10 < runv isDig (bs.drop (i + 1)) + 1) := h10
                clear h10
                as_aux_lemma =>
                  go_wp2_with fail
                  refine (rletter_tells.call x _ hx256).mono ?_
                  rw [hL]
                  rintro e w1 ⟨rfl, rfl⟩
                  go_wp2_with fail
                  refine (rdigit_tells.call x _ hx256).mono ?_
                  rw [hD]
                  rintro e w1 ⟨rfl, rfl⟩
                  go_wp2
                  go_loop [7] (fun v => ∃ j : Nat, i + 1 ≤ j ∧ j ≤ s.size ∧ v = .int .i64 j ∧ Hid (j + runv isDig (bs.drop j) = i + 1 + runv isDig (bs.drop (i + 1)))) (fun v => s.size - (intOf v).toNat)
                  case atStart => exact ⟨i + 1, Nat.le_refl _, hlt, by go_num, rfl⟩
                  case round =>
                    obtain ⟨j, hij, hjs, rfl, hid⟩ := hrel
                    by_cases hjl : j < s.size
                    · obtain ⟨y, hy⟩ : ∃ y, y = bs.getD j 0 := ⟨_, rfl⟩
                      have hgy : (s[j]'hjl).toNat = y := by rw [HBY.out j hjl, hy]
                      have hy256 : y < 256 := by rw [hy]; exact HLT.out j
                      have hjb : j < bs.length := by rw [← HSZ.out]; exact hjl
                      cases hpy : isDig y with
                      | true =>
                        have HL : Hid (j + 1 + runv isDig (bs.drop (j + 1)) = i + 1 + runv isDig (bs.drop (i + 1))) := by
                          show j + 1 + runv isDig (bs.drop (j + 1)) = _
                          rw [← hid.out, runv_more isDig bs j hjb (by rw [← hy]; exact hpy)]; omega
                        clear hy hjb hid hTL
                        go_wp2_with fail
                        refine (rdigit_tells.call y _ hy256).mono ?_
                        rw [hpy]
                        rintro e w1 ⟨rfl, rfl⟩
                        go_wp2
                        go_round
                        case rel => exact ⟨j + 1, by omega, by omega, by go_num, HL⟩
                        case measure => simp [intOf]; omega
                      | false =>
                        have hj : j = i + (runv isDig (bs.drop (i + 1)) + 1) := by
                          have h1 := hid.out
                          rw [runv_zero isDig bs j (.inl (by rw [← hy]; exact hpy))] at h1; omega
                        have HJ : Hid (j = i + (runv isDig (bs.drop (i + 1)) + 1)) := hj
                        have HY : Hid (y = bs.getD j 0) := hy
                        clear hy hjb hid hj
                        go_wp2_with fail
                        refine (rdigit_tells.call y _ hy256).mono ?_
                        rw [hpy]
                        rintro e w1 ⟨rfl, rfl⟩
                        have hjlong : i + 10 < j := by have := HJ.out; have := H10.out; omega
                        clear hTL
                        go_wp2
                        exact bodyPost_ret (v := .tuple #[.slice none 0 0, .agg #[.int .i64 4, .int .i64 (i : Int)]]) (by simp [results, Tryd.results25, go_sem, g0, g1]) rfl (.inl ⟨4, i, HE.out, rfl, Kept.setCell (Kept.setCell HWR.out (by simp) _) (by simp) _⟩)
                    · have hge : (s.size : Int) ≤ (j : Int) := by omega
                      have hj : j = i + (runv isDig (bs.drop (i + 1)) + 1) := by
                        have h1 := hid.out
                        rw [runv_zero isDig bs j (.inr (by rw [← HSZ.out]; omega))] at h1; omega
                      have HJ : Hid (j = i + (runv isDig (bs.drop (i + 1)) + 1)) := hj
                      clear hid hj
                      have hjlong : i + 10 < j := by have := HJ.out; have := H10.out; omega
                      clear hTL
                      go_wp2
                      exact bodyPost_ret (v := .tuple #[.slice none 0 0, .agg #[.int .i64 4, .int .i64 (i : Int)]]) (by simp [results, Tryd.results25, go_sem, g0, g1]) rfl (.inl ⟨4, i, HE.out, rfl, Kept.setCell (Kept.setCell HWR.out (by simp) _) (by simp) _⟩)
              · have HFF : Hid (first (bs.drop i) = (2, (bs.drop i).take (runv isDig (bs.drop (i + 1)) + 1), runv isDig (bs.drop (i + 1)) + 1)) := by show first (bs.drop i) = _; rw [HF.out, if_neg h10]
                clear HF
                have H10 : Hid (runv isDig (bs.drop (i + 1)) + 1 ≤ 10) := Nat.le_of_not_lt h10
                clear h10
                as_aux_lemma =>
                  go_wp2_with fail
                  refine (rletter_tells.call x _ hx256).mono ?_
                  rw [hL]
                  rintro e w1 ⟨rfl, rfl⟩
                  go_wp2_with fail
                  refine (rdigit_tells.call x _ hx256).mono ?_
                  rw [hD]
                  rintro e w1 ⟨rfl, rfl⟩
                  go_wp2
                  go_loop [7] (fun v => ∃ j : Nat, i + 1 ≤ j ∧ j ≤ s.size ∧ v = .int .i64 j ∧ Hid (j + runv isDig (bs.drop j) = i + 1 + runv isDig (bs.drop (i + 1)))) (fun v => s.size - (intOf v).toNat)
                  case atStart => exact ⟨i + 1, Nat.le_refl _, hlt, by go_num, rfl⟩
                  case round =>
                    obtain ⟨j, hij, hjs, rfl, hid⟩ := hrel
                    by_cases hjl : j < s.size
                    · obtain ⟨y, hy⟩ : ∃ y, y = bs.getD j 0 := ⟨_, rfl⟩
                      have hgy : (s[j]'hjl).toNat = y := by rw [HBY.out j hjl, hy]
                      have hy256 : y < 256 := by rw [hy]; exact HLT.out j
                      have hjb : j < bs.length := by rw [← HSZ.out]; exact hjl
                      cases hpy : isDig y with
                      | true =>
                        have HL : Hid (j + 1 + runv isDig (bs.drop (j + 1)) = i + 1 + runv isDig (bs.drop (i + 1))) := by
                          show j + 1 + runv isDig (bs.drop (j + 1)) = _
                          rw [← hid.out, runv_more isDig bs j hjb (by rw [← hy]; exact hpy)]; omega
                        clear hy hjb hid hTL
                        go_wp2_with fail
                        refine (rdigit_tells.call y _ hy256).mono ?_
                        rw [hpy]
                        rintro e w1 ⟨rfl, rfl⟩
                        go_wp2
                        go_round
                        case rel => exact ⟨j + 1, by omega, by omega, by go_num, HL⟩
                        case measure => simp [intOf]; omega
                      | false =>
                        have hj : j = i + (runv isDig (bs.drop (i + 1)) + 1) := by
                          have h1 := hid.out
                          rw [runv_zero isDig bs j (.inl (by rw [← hy]; exact hpy))] at h1; omega
                        have HJ : Hid (j = i + (runv isDig (bs.drop (i + 1)) + 1)) := hj
                        have HY : Hid (y = bs.getD j 0) := hy
                        clear hy hjb hid hj
                        go_wp2_with fail
                        refine (rdigit_tells.call y _ hy256).mono ?_
                        rw [hpy]
                        rintro e w1 ⟨rfl, rfl⟩
                        have hjshort : j ≤ i + 10 := by have := HJ.out; have := H10.out; omega
                        have HCUT : Hid (Spells (s.extract i j) ((bs.drop i).take (runv isDig (bs.drop (i + 1)) + 1))) := by
                          show Spells (s.extract i j) _
                          have h1 := HJ.out
                          rw [h1]; exact cut_n HS.out (by omega)
                        have HCC : Hid (s.extract i j = str ((bs.drop i).take (runv isDig (bs.drop (i + 1)) + 1))) := (HCUT.out).eq
                        have hL1 := hTL.next (Kept.alloc (Kept.refl _ _) (Nat.le_refl _) (.cells #[.int .i64 2, .string (s.extract i j), .int .i64 (i : Int)] 69))
                        have hC := hL1.came
                        clear hTL
                        go_wp2_with (at_builtin; refine wpList_append_upon _ rfl (.tmp 104) (.tmp 111) 58 58 rfl hC i0 _ 32 Tryd.underlying58 hi hz0 hz1 hz2 rfl rfl (Upon.start hC) _ 1 _ rfl (src_rtok _ _ _ rfl _ _ _) (by unfold maxLen; omega) (by omega) ?_)
                        intro v' w3 hup
                        obtain ⟨ao', b', off', cap', rfl, hT⟩ := hL1.app2 (t := ⟨2, (bs.drop i).take (runv isDig (bs.drop (i + 1)) + 1), i⟩) hup (by rw [HCC.out]; rfl)
                        have HT : Hid (TList W0 w3 (ts ++ [⟨2, (bs.drop i).take (runv isDig (bs.drop (i + 1)) + 1), i⟩]) ao' b' off' cap') := hT
                        clear hT hup hC hL1
                        simp only [List.length_append, List.length_cons, List.length_nil, Nat.zero_add]
                        go_wp2
                        have st := rt_tok HR.out HI.out HFF.out (by decide) (by decide) (j := j) (HJ.out) HT.out
                        refine ⟨⟨_, _, _, _, _, _, st⟩, ?_⟩
                        simp only [intOf]; omega
                    · have hge : (s.size : Int) ≤ (j : Int) := by omega
                      have hj : j = i + (runv isDig (bs.drop (i + 1)) + 1) := by
                        have h1 := hid.out
                        rw [runv_zero isDig bs j (.inr (by rw [← HSZ.out]; omega))] at h1; omega
                      have HJ : Hid (j = i + (runv isDig (bs.drop (i + 1)) + 1)) := hj
                      clear hid hj
                      have hjshort : j ≤ i + 10 := by have := HJ.out; have := H10.out; omega
                      have HCUT : Hid (Spells (s.extract i j) ((bs.drop i).take (runv isDig (bs.drop (i + 1)) + 1))) := by
                        show Spells (s.extract i j) _
                        have h1 := HJ.out
                        rw [h1]; exact cut_n HS.out (by omega)
                      have HCC : Hid (s.extract i j = str ((bs.drop i).take (runv isDig (bs.drop (i + 1)) + 1))) := (HCUT.out).eq
                      have hL1 := hTL.next (Kept.alloc (Kept.refl _ _) (Nat.le_refl _) (.cells #[.int .i64 2, .string (s.extract i j), .int .i64 (i : Int)] 69))
                      have hC := hL1.came
                      clear hTL
                      go_wp2_with (at_builtin; refine wpList_append_upon _ rfl (.tmp 104) (.tmp 111) 58 58 rfl hC i0 _ 32 Tryd.underlying58 hi hz0 hz1 hz2 rfl rfl (Upon.start hC) _ 1 _ rfl (src_rtok _ _ _ rfl _ _ _) (by unfold maxLen; omega) (by omega) ?_)
                      intro v' w3 hup
                      obtain ⟨ao', b', off', cap', rfl, hT⟩ := hL1.app2 (t := ⟨2, (bs.drop i).take (runv isDig (bs.drop (i + 1)) + 1), i⟩) hup (by rw [HCC.out]; rfl)
                      have HT : Hid (TList W0 w3 (ts ++ [⟨2, (bs.drop i).take (runv isDig (bs.drop (i + 1)) + 1), i⟩]) ao' b' off' cap') := hT
                      clear hT hup hC hL1
                      simp only [List.length_append, List.length_cons, List.length_nil, Nat.zero_add]
                      go_wp2
                      have st := rt_tok HR.out HI.out HFF.out (by decide) (by decide) (j := j) (HJ.out) HT.out
                      refine ⟨⟨_, _, _, _, _, _, st⟩, ?_⟩
                      simp only [intOf]; omega
            | false =>
              rw [if_neg (by rw [hD]; decide)] at HF
              by_cases h34 : x = 34
              · subst h34
                rw [if_pos rfl] at HF
                clear hx32 hx10 hb47 hL hD
                by_cases hq : bs.getD (i + 1 + runv inText (bs.drop (i + 1))) 0 = 34
                · rw [if_pos hq] at HF
                  have HFF : Hid (first (bs.drop i) = (3, (bs.drop (i + 1)).take (runv inText (bs.drop (i + 1))), runv inText (bs.drop (i + 1)) + 2)) := HF.out
                  have HQ : Hid (bs.getD (i + 1 + runv inText (bs.drop (i + 1))) 0 = 34) := hq
                  clear HF hq
                  as_aux_lemma =>
                    go_wp2_with fail
                    refine (rletter_tells.call 34 _ (by decide)).mono ?_
                    rw [show isLet 34 = false from rfl]
                    rintro e w1 ⟨rfl, rfl⟩
                    go_wp2_with fail
                    refine (rdigit_tells.call 34 _ (by decide)).mono ?_
                    rw [show isDig 34 = false from rfl]
                    rintro e w1 ⟨rfl, rfl⟩
                    go_wp2
                    go_loop [7] (fun v => ∃ j : Nat, i + 1 ≤ j ∧ j ≤ s.size ∧ v = .int .i64 j ∧ Hid (j + runv inText (bs.drop j) = i + 1 + runv inText (bs.drop (i + 1)))) (fun v => s.size - (intOf v).toNat)
                    case atStart => exact ⟨i + 1, Nat.le_refl _, hlt, by go_num, rfl⟩
                    case round =>
                      obtain ⟨j, hij, hjs, rfl, hid⟩ := hrel
                      by_cases hjl : j < s.size
                      · obtain ⟨y, hy⟩ : ∃ y, y = bs.getD j 0 := ⟨_, rfl⟩
                        have hgy : (s[j]'hjl).toNat = y := by rw [HBY.out j hjl, hy]
                        have hy256 : y < 256 := by rw [hy]; exact HLT.out j
                        have hjb : j < bs.length := by rw [← HSZ.out]; exact hjl
                        cases hpy : inText y with
                        | true =>
                          have HL : Hid (j + 1 + runv inText (bs.drop (j + 1)) = i + 1 + runv inText (bs.drop (i + 1))) := by
                            show j + 1 + runv inText (bs.drop (j + 1)) = _
                            rw [← hid.out, runv_more inText bs j hjb (by rw [← hy]; exact hpy)]; omega
                          have hb : ((y : Int) != 10) = true := by rw [bne_iff_ne]; intro h; rw [show y = 10 by omega] at hpy; exact absurd hpy (by decide)
                          have hb2 : ((y : Int) != 34) = true := by rw [bne_iff_ne]; intro h; rw [show y = 34 by omega] at hpy; exact absurd hpy (by decide)
                          clear hy hjb hid hTL
                          go_wp2
                          go_round
                          case rel => exact ⟨j + 1, by omega, by omega, by go_num, HL⟩
                          case measure => simp [intOf]; omega
                        | false =>
                          have hj : j = i + (runv inText (bs.drop (i + 1)) + 1) := by
                            have h1 := hid.out
                            rw [runv_zero inText bs j (.inl (by rw [← hy]; exact hpy))] at h1; omega
                          have HJ : Hid (j = i + (runv inText (bs.drop (i + 1)) + 1)) := hj
                          have HY : Hid (y = bs.getD j 0) := hy
                          clear hy hjb hid hj
                          have hy34 : y = 34 := by
                            have h1 := HJ.out
                            have h2 := HQ.out
                            rw [show i + 1 + runv inText (bs.drop (i + 1)) = j by omega] at h2
                            rw [HY.out]; exact h2
                          subst hy34
                          clear hpy
                          have HCUT : Hid (Spells (s.extract (i + 1) j) ((bs.drop (i + 1)).take (runv inText (bs.drop (i + 1))))) := by
                            show Spells (s.extract (i + 1) j) _
                            have h1 := HJ.out
                            rw [show j = i + 1 + runv inText (bs.drop (i + 1)) by omega]; exact cut_n HS.out (by omega)
                          have HCC : Hid (s.extract (i + 1) j = str ((bs.drop (i + 1)).take (runv inText (bs.drop (i + 1))))) := (HCUT.out).eq
                          have hL1 := hTL.next (Kept.alloc (Kept.refl _ _) (Nat.le_refl _) (.cells #[.int .i64 3, .string (s.extract (i + 1) j), .int .i64 (i : Int)] 69))
                          have hC := hL1.came
                          clear hTL
                          go_wp2_with (at_builtin; refine wpList_append_upon _ rfl (.tmp 146) (.tmp 154) 58 58 rfl hC i0 _ 32 Tryd.underlying58 hi hz0 hz1 hz2 rfl rfl (Upon.start hC) _ 1 _ rfl (src_rtok _ _ _ rfl _ _ _) (by unfold maxLen; omega) (by omega) ?_)
                          intro v' w3 hup
                          obtain ⟨ao', b', off', cap', rfl, hT⟩ := hL1.app2 (t := ⟨3, (bs.drop (i + 1)).take (runv inText (bs.drop (i + 1))), i⟩) hup (by rw [HCC.out]; rfl)
                          have HT : Hid (TList W0 w3 (ts ++ [⟨3, (bs.drop (i + 1)).take (runv inText (bs.drop (i + 1))), i⟩]) ao' b' off' cap') := hT
                          clear hT hup hC hL1
                          simp only [List.length_append, List.length_cons, List.length_nil, Nat.zero_add]
                          go_wp2
                          have st := rt_tok HR.out HI.out HFF.out (by decide) (by decide) (j := j + 1) (by have := HJ.out; omega) HT.out
                          refine ⟨⟨_, _, _, _, _, _, st⟩, ?_⟩
                          simp only [intOf]; omega
                      · have hge : (s.size : Int) ≤ (j : Int) := by omega
                        have hj : j = i + (runv inText (bs.drop (i + 1)) + 1) := by
                          have h1 := hid.out
                          rw [runv_zero inText bs j (.inr (by rw [← HSZ.out]; omega))] at h1; omega
                        have HJ : Hid (j = i + (runv inText (bs.drop (i + 1)) + 1)) := hj
                        clear hid hj
                        exfalso
                        have h1 := HJ.out
                        have h2 := getD_ne HQ.out (by decide)
                        rw [← HSZ.out] at h2
                        omega
                · rw [if_neg hq] at HF
                  have HFF : Hid (first (bs.drop i) = (3 + 10, [], 0)) := HF.out
                  have HE : Hid (toks 0 bs = .error (3, i)) := rt_bad HR.out HI.out HFF.out
                  have HQ : Hid (bs.getD (i + 1 + runv inText (bs.drop (i + 1))) 0 ≠ 34) := hq
                  clear HF HFF HR hq
                  as_aux_lemma =>
                    go_wp2_with fail
                    refine (rletter_tells.call 34 _ (by decide)).mono ?_
                    rw [show isLet 34 = false from rfl]
                    rintro e w1 ⟨rfl, rfl⟩
                    go_wp2_with fail
                    refine (rdigit_tells.call 34 _ (by decide)).mono ?_
                    rw [show isDig 34 = false from rfl]
                    rintro e w1 ⟨rfl, rfl⟩
                    go_wp2
                    go_loop [7] (fun v => ∃ j : Nat, i + 1 ≤ j ∧ j ≤ s.size ∧ v = .int .i64 j ∧ Hid (j + runv inText (bs.drop j) = i + 1 + runv inText (bs.drop (i + 1)))) (fun v => s.size - (intOf v).toNat)
                    case atStart => exact ⟨i + 1, Nat.le_refl _, hlt, by go_num, rfl⟩
                    case round =>
                      obtain ⟨j, hij, hjs, rfl, hid⟩ := hrel
                      by_cases hjl : j < s.size
                      · obtain ⟨y, hy⟩ : ∃ y, y = bs.getD j 0 := ⟨_, rfl⟩
                        have hgy : (s[j]'hjl).toNat = y := by rw [HBY.out j hjl, hy]
                        have hy256 : y < 256 := by rw [hy]; exact HLT.out j
                        have hjb : j < bs.length := by rw [← HSZ.out]; exact hjl
                        cases hpy : inText y with
                        | true =>
                          have HL : Hid (j + 1 + runv inText (bs.drop (j + 1)) = i + 1 + runv inText (bs.drop (i + 1))) := by
                            show j + 1 + runv inText (bs.drop (j + 1)) = _
                            rw [← hid.out, runv_more inText bs j hjb (by rw [← hy]; exact hpy)]; omega
                          have hb : ((y : Int) != 10) = true := by rw [bne_iff_ne]; intro h; rw [show y = 10 by omega] at hpy; exact absurd hpy (by decide)
                          have hb2 : ((y : Int) != 34) = true := by rw [bne_iff_ne]; intro h; rw [show y = 34 by omega] at hpy; exact absurd hpy (by decide)
                          clear hy hjb hid hTL
                          go_wp2
                          go_round
                          case rel => exact ⟨j + 1, by omega, by omega, by go_num, HL⟩
                          case measure => simp [intOf]; omega
                        | false =>
                          have hj : j = i + (runv inText (bs.drop (i + 1)) + 1) := by
                            have h1 := hid.out
                            rw [runv_zero inText bs j (.inl (by rw [← hy]; exact hpy))] at h1; omega
                          have HJ : Hid (j = i + (runv inText (bs.drop (i + 1)) + 1)) := hj
                          have HY : Hid (y = bs.getD j 0) := hy
                          clear hy hjb hid hj
                          have hy34 : y ≠ 34 := by
                            have h1 := HJ.out
                            have h2 := HQ.out
                            rw [show i + 1 + runv inText (bs.drop (i + 1)) = j by omega] at h2
                            rw [HY.out]; exact h2
                          have hy10 : y = 10 := by
                            have := hpy
                            simp [inText] at this
                            omega
                          subst hy10
                          clear hpy hy34 hTL
                          go_wp2
                          exact bodyPost_ret (v := .tuple #[.slice none 0 0, .agg #[.int .i64 3, .int .i64 (i : Int)]]) (by simp [results, Tryd.results25, go_sem, g0, g1]) rfl (.inl ⟨3, i, HE.out, rfl, Kept.setCell (Kept.setCell HWR.out (by simp) _) (by simp) _⟩)
                      · have hge : (s.size : Int) ≤ (j : Int) := by omega
                        have hj : j = i + (runv inText (bs.drop (i + 1)) + 1) := by
                          have h1 := hid.out
                          rw [runv_zero inText bs j (.inr (by rw [← HSZ.out]; omega))] at h1; omega
                        have HJ : Hid (j = i + (runv inText (bs.drop (i + 1)) + 1)) := hj
                        clear hid hj
                        clear hTL
                        go_wp2
                        exact bodyPost_ret (v := .tuple #[.slice none 0 0, .agg #[.int .i64 3, .int .i64 (i : Int)]]) (by simp [results, Tryd.results25, go_sem, g0, g1]) rfl (.inl ⟨3, i, HE.out, rfl, Kept.setCell (Kept.setCell HWR.out (by simp) _) (by simp) _⟩)
              · have hb34 : ((x : Int) == 34) = false := by rw [beq_eq_false_iff_ne]; omega
                rw [if_neg h34] at HF
                clear h34
                cases hM : isMark x with
                | true =>
                  rw [if_pos hM] at HF
                  have HFF : Hid (first (bs.drop i) = (4, (bs.drop i).take 1, 1)) := HF.out
                  have hm : x = 123 ∨ x = 125 ∨ x = 61 ∨ x = 59 ∨ x = 60 ∨ x = 62 ∨ x = 44 ∨ x = 45 := by simpa [isMark, or_assoc] using hM
                  have HCUT : Hid (Spells (s.extract i (i + 1)) ((bs.drop i).take 1)) := cut_n HS.out hlt
                  clear HF hM
                  rcases hm with rfl | rfl | rfl | rfl | rfl | rfl | rfl | rfl
                  all_goals
                    as_aux_lemma =>
                      go_wp2_with fail
                      refine (rletter_tells.call _ _ hx256).mono ?_
                      rw [hL]
                      rintro e w1 ⟨rfl, rfl⟩
                      go_wp2_with fail
                      refine (rdigit_tells.call _ _ hx256).mono ?_
                      rw [hD]
                      rintro e w1 ⟨rfl, rfl⟩
                      have HCC : Hid (s.extract i (i + 1) = str ((bs.drop i).take 1)) := (HCUT.out).eq
                      have hL1 := hTL.next (Kept.alloc (Kept.refl _ _) (Nat.le_refl _) (.cells #[.int .i64 4, .string (s.extract i (i + 1)), .int .i64 (i : Int)] 69))
                      have hC := hL1.came
                      clear hTL
                      go_wp2_with (at_builtin; refine wpList_append_upon _ rfl (.tmp 189) (.tmp 196) 58 58 rfl hC i0 _ 32 Tryd.underlying58 hi hz0 hz1 hz2 rfl rfl (Upon.start hC) _ 1 _ rfl (src_rtok _ _ _ rfl _ _ _) (by unfold maxLen; omega) (by omega) ?_)
                      intro v' w3 hup
                      obtain ⟨ao', b', off', cap', rfl, hT⟩ := hL1.app2 (t := ⟨4, (bs.drop i).take 1, i⟩) hup (by rw [HCC.out]; rfl)
                      have HT : Hid (TList W0 w3 (ts ++ [⟨4, (bs.drop i).take 1, i⟩]) ao' b' off' cap') := hT
                      clear hT hup hC hL1
                      simp only [List.length_append, List.length_cons, List.length_nil, Nat.zero_add]
                      go_wp2
                      have st := rt_tok HR.out HI.out HFF.out (by decide) (by decide) (j := i + 1) (rfl) HT.out
                      refine ⟨⟨_, _, _, _, _, _, st⟩, ?_⟩
                      simp only [intOf]; omega
                | false =>
                  rw [if_neg (by rw [hM]; decide)] at HF
                  have HFF : Hid (first (bs.drop i) = (3 + 10, [], 0)) := HF.out
                  have HE : Hid (toks 0 bs = .error (3, i)) := rt_bad HR.out HI.out HFF.out
                  have hm123 : ((x : Int) == 123) = false := by rw [beq_eq_false_iff_ne]; intro h; rw [show x = 123 by omega] at hM; exact absurd hM (by decide)
                  have hm125 : ((x : Int) == 125) = false := by rw [beq_eq_false_iff_ne]; intro h; rw [show x = 125 by omega] at hM; exact absurd hM (by decide)
                  have hm61 : ((x : Int) == 61) = false := by rw [beq_eq_false_iff_ne]; intro h; rw [show x = 61 by omega] at hM; exact absurd hM (by decide)
                  have hm59 : ((x : Int) == 59) = false := by rw [beq_eq_false_iff_ne]; intro h; rw [show x = 59 by omega] at hM; exact absurd hM (by decide)
                  have hm60 : ((x : Int) == 60) = false := by rw [beq_eq_false_iff_ne]; intro h; rw [show x = 60 by omega] at hM; exact absurd hM (by decide)
                  have hm62 : ((x : Int) == 62) = false := by rw [beq_eq_false_iff_ne]; intro h; rw [show x = 62 by omega] at hM; exact absurd hM (by decide)
                  have hm44 : ((x : Int) == 44) = false := by rw [beq_eq_false_iff_ne]; intro h; rw [show x = 44 by omega] at hM; exact absurd hM (by decide)
                  have hm45 : ((x : Int) == 45) = false := by rw [beq_eq_false_iff_ne]; intro h; rw [show x = 45 by omega] at hM; exact absurd hM (by decide)
                  clear HF HFF HR hTL hM
                  as_aux_lemma =>
                    go_wp2_with fail
                    refine (rletter_tells.call x _ hx256).mono ?_
                    rw [hL]
                    rintro e w1 ⟨rfl, rfl⟩
                    go_wp2_with fail
                    refine (rdigit_tells.call x _ hx256).mono ?_
                    rw [hD]
                    rintro e w1 ⟨rfl, rfl⟩
                    go_wp2
                    exact bodyPost_ret (v := .tuple #[.slice none 0 0, .agg #[.int .i64 3, .int .i64 (i : Int)]]) (by simp [results, Tryd.results25, go_sem, g0, g1]) rfl (.inl ⟨3, i, HE.out, rfl, Kept.setCell (Kept.setCell HWR.out (by simp) _) (by simp) _⟩)
    · have hE : Hid (toks 0 bs = .ok (ts ++ [⟨5, [], i⟩])) := rt_end R (by rw [← HSZ.out]; exact hlt)
      as_aux_lemma =>
        have hL1 := R.list.next (Kept.alloc (Kept.refl _ _) (Nat.le_refl _) (.cells #[.int .i64 5, .string ⟨#[]⟩, .int .i64 (s.size : Int)] 69))
        have hC := hL1.came
        have heq : i = s.size := by omega
        subst heq
        go_wp2_with (at_builtin; refine wpList_append_upon _ rfl (.tmp 199) (.tmp 203) 58 58 rfl hC i0 _ 32 Tryd.underlying58 hi hz0 hz1 hz2 rfl rfl (Upon.start hC) _ 1 _ rfl (src_rtok _ _ _ rfl _ _ _) (by unfold maxLen; omega) (by omega) ?_)
        intro v' w3 hup
        obtain ⟨ao', b', off', cap', rfl, hT⟩ := hL1.app (t := ⟨5, [], s.size⟩) hup
        clear hup hC hL1 g0 g1 fr0 fr1
        go_wp2_with fail
        refine (bareF 0 _).mono ?_
        rintro e w4 ⟨rfl, hk4⟩
        have hT4 := hT.next hk4
        have g0 := (hT4.kept.cell (p := ⟨w.heap.size, 0, none⟩) hws).trans e0
        have g1 := (hT4.kept.cell (p := ⟨w.heap.size, 1, none⟩) hws).trans e1
        have fr0 := (hT4.kept.frozen (p := ⟨w.heap.size, 0, none⟩) hws).trans f0
        have fr1 := (hT4.kept.frozen (p := ⟨w.heap.size, 1, none⟩) hws).trans f1
        have HT : Hid (TList w ((w4.setCell ⟨w.heap.size, 0, none⟩ (.int .i64 0)).setCell ⟨w.heap.size, 1, none⟩ (.int .i64 (-1))) (ts ++ [⟨5, [], s.size⟩]) ao' b' off' cap') := tset2 hT4 HKW.out hws _ _
        clear hT hT4 hk4
        go_wp2
        exact bodyPost_ret (v := .tuple #[.slice ao' (ts ++ [(⟨5, [], s.size⟩ : Tk)]).length cap', .agg #[.int .i64 0, .int .i64 (-1)]]) (by simp [results, Tryd.results25, go_sem, g0, g1]) rfl (.inr ⟨_, _, _, _, _, hE.out, rfl, HT.out⟩)
end Go.Proofs.YticgkjcdhmejcaaDoor
