/- HasPrefix, IndexByte, skip. -/
import Derived.Test.YticgkjcdhmejcaaLexRun
import Derived.Test.YticgkjcdhmejcaaStrEq
namespace Go.Proofs.Yticgkjcdhmejcaa
open Go.RowKit
set_option linter.unusedVariables false
set_option linter.unusedSimpArgs false

theorem two_slashes {t : ByteArray} {ts : List Nat} (ht : Spells t ts) (h2 : 2 ≤ t.size) : ((t.extract 0 2).toList == [47, 47]) = decide (ts.getD 0 0 = 47 ∧ ts.getD 1 0 = 47) := by
  have hc := ht.cut (a := 0) h2 (Nat.zero_le _)
  have hsz := ht.size
  have h47 : Spells ⟨#[47, 47]⟩ [47, 47] := str_spells (bs := [47, 47]) (by simp)
  have e : ([47, 47] : List UInt8) = (ByteArray.mk #[47, 47]).toList := by rw [ByteArray.toList_eq]
  rw [e, hc.beq h47]
  have h3 : 2 ≤ ts.length := by omega
  match ts, h3 with
  | [], h3 => simp at h3
  | [_], h3 => simp at h3
  | a :: b :: r, _ => simp

theorem prefix_any (t : ByteArray) (ts : List Nat) (w : World) (ht : Spells t ts) (hl : t.size ≤ 100000) (b : Bool) (hb : b = decide (ts.getD 0 0 = 47 ∧ ts.getD 1 0 = 47)) :
    Calls Try.prog 41 #[.string t, .string ⟨#[47, 47]⟩] w fun e w' => e = .returned (.bool b) ∧ w' = w := by
  have HB : Hid (b = decide (ts.getD 0 0 = 47 ∧ ts.getD 1 0 = 47)) := hb
  clear hb
  by_cases h2 : 2 ≤ t.size
  · go_enter Try.func41, Try.ntmps41
    go_wp2
    go_ret
    exact ⟨ret_bool (by rw [HB.out]; exact two_slashes ht h2), rfl⟩
  · go_enter Try.func41, Try.ntmps41
    go_wp2
    go_ret
    refine ⟨ret_bool ?_, rfl⟩
    rw [HB.out]
    symm
    rw [decide_eq_false_iff_not]
    rintro ⟨_, h⟩
    have := getD_ne h (by decide)
    have := ht.size
    omega

theorem marks_all : ∀ c : Fin 256, decide (0 ≤ firstIdx ⟨#[123, 125, 61, 59, 60, 62, 44, 45]⟩ (UInt8.ofNat c.val)) = isMark c.val := by decide +kernel

theorem index_any (c : Nat) (hc : c < 256) (w : World) :
    Calls Try.prog 43 #[.string ⟨#[123, 125, 61, 59, 60, 62, 44, 45]⟩, .int .u8 (c : Int)] w fun e w' => ∃ r : Int, e = .returned (.int .i64 r) ∧ decide (0 ≤ r) = isMark c ∧ w' = w := by
  have hix := @run_callFunc_extern Try.prog 44 _ Extern.BytealgIndexByte.indexByte Try.func44 (by kernel_rfl) (by kernel_rfl) (by kernel_rfl) (by kernel_rfl)
  have hrun := fun (s : ByteArray) (c : Int) (w : World) => @run_indexByte_string Try.prog s c w
  go_enter Try.func43, Try.ntmps43
  go_wp2
  go_ret
  exact ⟨_, rfl, marks_all ⟨c, hc⟩, rfl⟩
theorem prefixS_any (t : ByteArray) (ts : List Nat) (w : World) (ht : Spells t ts) (hl : t.size ≤ 100000) (b : Bool) (hb : b = decide (ts.getD 0 0 = 47 ∧ ts.getD 1 0 = 47)) :
    Calls Try.prog 31 #[.string t, .string ⟨#[47, 47]⟩] w fun e w' => e = .returned (.bool b) ∧ w' = w := by
  have HB : Hid (b = decide (ts.getD 0 0 = 47 ∧ ts.getD 1 0 = 47)) := hb
  clear hb
  go_enter Try.func31, Try.ntmps31
  go_wp2_with fail
  refine (prefix_any t ts _ ht hl b HB.out).mono ?_
  rintro e w1 ⟨rfl, rfl⟩
  go_wp2
  go_ret
  exact ⟨rfl, rfl⟩
theorem indexS_any (c : Nat) (hc : c < 256) (w : World) :
    Calls Try.prog 37 #[.string ⟨#[123, 125, 61, 59, 60, 62, 44, 45]⟩, .int .u8 (c : Int)] w fun e w' => ∃ r : Int, e = .returned (.int .i64 r) ∧ decide (0 ≤ r) = isMark c ∧ w' = w := by
  go_enter Try.func37, Try.ntmps37
  go_wp2_with fail
  refine (index_any c hc _).mono ?_
  rintro e w1 ⟨r, rfl, hr, rfl⟩
  go_wp2
  go_ret
  exact ⟨r, rfl, hr, rfl⟩

theorem toks_gaps (r : List Nat) (i : Nat) : toks i r = toks (i + runv isGap r) (r.drop (runv isGap r)) := by
  induction r generalizing i with
  | nil => rfl
  | cons c r ih =>
    by_cases hc : isGap c = true
    · have hf : first (c :: r) = (0, [], 1) := by unfold first; rw [if_pos (by simpa using hc)]
      rw [toks_gap (by simp) (by rw [hf]), hf, runv, if_pos hc]
      simp only [List.drop_succ_cons, List.drop_zero]
      rw [ih, Nat.add_right_comm]; rfl
    · rw [runv, if_neg hc]; rfl
theorem first_remark {r : List Nat} (h0 : r.getD 0 0 = 47) (h1 : r.getD 1 0 = 47) : first r = (0, [], runv inLine r) := by
  unfold first
  rw [if_neg (by rw [h0]; decide), if_pos ⟨h0, h1⟩]
theorem toks_remark {r : List Nat} (i : Nat) (h0 : r.getD 0 0 = 47) (h1 : r.getD 1 0 = 47) : toks i r = toks (i + runv inLine r) (r.drop (runv inLine r)) := by
  have hn : r ≠ [] := by rintro rfl; simp at h0
  rw [toks_gap hn (by rw [first_remark h0 h1]), first_remark h0 h1]
theorem first_some {r : List Nat} (h : isGap (r.getD 0 0) = false) (h1 : ¬ (r.getD 0 0 = 47 ∧ r.getD 1 0 = 47)) : (first r).1 ≠ 0 := by
  unfold first
  rw [if_neg (by rw [h]; decide), if_neg h1]
  repeat' split
  all_goals simp

/-- What skip answers. -/
def Skips (bs : List Nat) (i j : Nat) : Prop := i ≤ j ∧ j ≤ bs.length ∧ toks i (bs.drop i) = toks j (bs.drop j) ∧ (j < bs.length → (first (bs.drop j)).1 ≠ 0)

theorem drop_getD (bs : List Nat) (i k : Nat) : (bs.drop i).getD k 0 = bs.getD (i + k) 0 := by simp

theorem remark_two {r : List Nat} (h0 : r.getD 0 0 = 47) (h1 : r.getD 1 0 = 47) : 2 ≤ runv inLine r := by
  match r with
  | [] => simp at h0
  | [_] => simp at h1
  | a :: b :: r =>
    simp at h0 h1
    subst h0 h1
    rw [runv, if_pos (by decide), runv, if_pos (by decide)]; omega

set_option maxHeartbeats 1000000 in
set_option maxRecDepth 100000 in
theorem skip_any (s : ByteArray) (bs : List Nat) (i : Nat) (w : World) (hs : Spells s bs) (hl : s.size ≤ 100000) (hi : i ≤ s.size) :
    Calls Try.prog 22 #[.string s, .int .i64 (i : Int)] w fun e w' => ∃ j : Nat, e = .returned (.int .i64 (j : Int)) ∧ Skips bs i j ∧ w' = w := by
  have HSZ : Hid (s.size = bs.length) := hs.size
  have HS : Hid (Spells s bs) := hs
  go_enter Try.func22, Try.ntmps22
  go_wp2
  go_loop [1] (fun v => ∃ j : Nat, j ≤ s.size ∧ v = .int .i64 j ∧ Hid (i ≤ j ∧ toks i (bs.drop i) = toks j (bs.drop j))) (fun v => s.size - (intOf v).toNat)
  case atStart => exact ⟨i, hi, rfl, Nat.le_refl _, rfl⟩
  case round =>
    obtain ⟨j, hj, rfl, hid⟩ := hrel
    clear hs
    go_wp2_with fail
    refine (run_any _ isGap gap_tells s bs j _ HS.out hl hj).mono ?_
    rintro e w1 ⟨rfl, rfl⟩
    obtain ⟨a, ha⟩ : ∃ a, a = j + runv isGap (bs.drop j) := ⟨_, rfl⟩
    rw [← ha]
    have hal : a ≤ s.size := by
      have := runv_le isGap (bs.drop j)
      rw [List.length_drop] at this
      have := HSZ.out; omega
    have hja : j ≤ a := by omega
    have HA : Hid (a = j + runv isGap (bs.drop j)) := ha
    have HT : Hid (toks i (bs.drop i) = toks a (bs.drop a)) := by
      show toks i (bs.drop i) = toks a (bs.drop a)
      rw [hid.out.2, toks_gaps (bs.drop j) j, List.drop_drop, ← ha]
    have hts : Spells (s.extract a s.size) (bs.drop a) := HS.out.rest hal
    have hrs : (s.extract a s.size).size ≤ 100000 := by rw [ByteArray.size_extract]; omega
    clear ha
    go_wp2_with fail
    by_cases hp : (bs.drop a).getD 0 0 = 47 ∧ (bs.drop a).getD 1 0 = 47
    · refine (prefixS_any _ (bs.drop a) _ hts hrs true (decide_eq_true hp).symm).mono ?_
      rintro e w2 ⟨rfl, rfl⟩
      have HP : Hid ((bs.drop a).getD 0 0 = 47 ∧ (bs.drop a).getD 1 0 = 47) := hp
      clear hp hts hrs
      go_wp2_with fail
      refine (run_any _ inLine line_tells s bs a _ HS.out hl hal).mono ?_
      rintro e w3 ⟨rfl, rfl⟩
      obtain ⟨b, hb⟩ : ∃ b, b = a + runv inLine (bs.drop a) := ⟨_, rfl⟩
      rw [← hb]
      have hbl : b ≤ s.size := by
        have := runv_le inLine (bs.drop a)
        rw [List.length_drop] at this
        have := HSZ.out; omega
      have hab : a + 2 ≤ b := by have := remark_two HP.out.1 HP.out.2; omega
      have HT2 : Hid (toks i (bs.drop i) = toks b (bs.drop b)) := by
        show toks i (bs.drop i) = toks b (bs.drop b)
        rw [HT.out, toks_remark a HP.out.1 HP.out.2, List.drop_drop, ← hb]
      clear hb
      go_wp2
      go_round
      case rel => exact ⟨b, hbl, rfl, by have := hid.out.1; omega, HT2.out⟩
      case measure => simp [intOf]; omega
    · refine (prefixS_any _ (bs.drop a) _ hts hrs false (decide_eq_false hp).symm).mono ?_
      rintro e w2 ⟨rfl, rfl⟩
      have HP : Hid (¬ ((bs.drop a).getD 0 0 = 47 ∧ (bs.drop a).getD 1 0 = 47)) := hp
      clear hp hts hrs
      go_wp2
      go_ret
      refine ⟨a, rfl, ⟨by have := hid.out.1; omega, by rw [← HSZ.out]; exact hal, HT.out, fun hlt => first_some ?_ HP.out⟩, rfl⟩
      rw [drop_getD, Nat.add_zero, HA.out, ← drop_getD]
      refine runv_stop isGap _ ?_
      rw [List.length_drop]
      have := HA.out; omega
end Go.Proofs.Yticgkjcdhmejcaa
